/- The reference on commits: CommitsError. -/
import Derived.Test.YtcgpgflnihjpiadDag1
import Derived.Test.YtcgpgflnihjpiadRef1
namespace Go.Proofs.Ytcgpgflnihjpiad
namespace M
theorem pr_ref (c : Nat) (ps : List Int) : pr c ps = true ↔ ps.length ≤ 2 ∧ (ps.length = 2 → ps.getD 0 0 < ps.getD 1 0) ∧ ∀ p ∈ ps, 0 ≤ p ∧ p < (c : Int) := by
  match ps with
  | [] => simp [pr, ris]
  | [a] => simp [pr, ris]; omega
  | [a, b] => simp [pr, ris]; omega
  | a :: b :: d :: t => simp [pr]
end M
open Go.RowKit

theorem cerror_many (a : Option Addr) (n cap : Nat) (w : World) (h : 14 < n) (hm : n ≤ 9223372036854775807) :
    Calls Try.prog 28 #[.slice a n cap] w fun e w' => e = .returned (.int .i64 2) ∧ w' = w := by
  go_enter Try.func28, Try.ntmps28
  go_wp2
  go_ret
  exact ⟨rfl, rfl⟩
theorem cerror_none (a : Option Addr) (cap : Nat) (w : World) :
    Calls Try.prog 28 #[.slice a 0 cap] w fun e w' => e = .returned (.int .i64 0) ∧ w' = w := by
  go_enter Try.func28, Try.ntmps28
  go_wp2
  refine wp_loop_rounds 1 ?_
  rw [rounds_succ]
  go_wp2
  go_ret
  exact ⟨rfl, rfl⟩

set_option maxHeartbeats 8000000 in
theorem cerror_some (b off n cap : Nat) (L : List M.Com) (w : World) (hn : n ≤ 14) (hl : L.length = n) (hB : b < w.heap.size)
    (hc : ∀ i, i < n → ∃ a1 n1 c1 a2 n2 c2, w.cell? ⟨b, off + i * 2, none⟩ = some (.slice a1 n1 c1) ∧ w.cell? ⟨b, off + i * 2 + 1, none⟩ = some (.slice a2 n2 c2) ∧ Rd w a1 n1 (L.getD i ([], [])).1 ∧ Ri w a2 n2 (L.getD i ([], [])).2 ∧ n1 ≤ 9223372036854775807 ∧ n2 ≤ 9223372036854775807) :
    Calls Try.prog 28 #[.slice (some ⟨b, off, none⟩) n cap] w fun e w' => e = .returned (.int .i64 (M.dchkF 0 L)) ∧ Below w.heap.size w w' := by
  have HC : Aside (∀ i, i < n → ∃ a1 n1 c1 a2 n2 c2, w.cell? ⟨b, off + i * 2, none⟩ = some (.slice a1 n1 c1) ∧ w.cell? ⟨b, off + i * 2 + 1, none⟩ = some (.slice a2 n2 c2) ∧ Rd w a1 n1 (L.getD i ([], [])).1 ∧ Ri w a2 n2 (L.getD i ([], [])).2 ∧ n1 ≤ 9223372036854775807 ∧ n2 ≤ 9223372036854775807) := hc
  have HL : Aside (L.length = n) := hl
  clear hc hl
  go_enter Try.func28, Try.ntmps28
  go_wp2
  go_loopg [3] n (fun g i wr => ∃ (k : Nat), k + g = n ∧ i = .int .i64 k ∧ Below w.heap.size w wr ∧ Aside (M.dchkF k (L.drop k) = M.dchkF 0 L))
  case atStart => exact ⟨0, by omega, rfl, Below.refl _ _, by simp [Aside]⟩
  case round =>
    obtain ⟨k, hk, rfl, hbel, A⟩ := hrel
    have hsz := hbel.size
    by_cases hlt : k < n
    · obtain ⟨a1, n1, c1, a2, n2, c2, q1, q2, r1, r2, m1, m2⟩ := HC.out k hlt
      obtain ⟨C, hC⟩ : ∃ C, L.getD k ([], []) = C := ⟨_, rfl⟩
      rw [hC] at r1 r2
      have c0 : wr.cell? ⟨b, off + k * 2, none⟩ = some (.slice a1 n1 c1) := (hbel.cell (p := ⟨b, off + k * 2, none⟩) hB).trans q1
      have HCh := error_any a1 n1 c1 C.1 wr (r1.below hbel (Nat.le_refl _)) m1
      have HX : Aside (L.getD k ([], []) = C) := hC
      have H2 : Hid (Ri w a2 n2 C.2) := r2
      have Q2 : Hid (w.cell? ⟨b, off + k * 2 + 1, none⟩ = some (.slice a2 n2 c2)) := q2
      have hki : (k : Int) < (n : Int) := by omega
      clear hC r1 r2 q1 q2
      obtain ⟨e1, he1⟩ : ∃ e1, e1 = M.chk C.1 := ⟨_, rfl⟩
      rw [← he1] at HCh
      have HE1 : Hid (e1 = M.chk C.1) := he1
      have HH : Hid (Calls Try.prog 46 #[.slice a1 n1 c1] wr fun e w' => e = .returned (.int .i64 e1) ∧ Below wr.heap.size wr w') := HCh
      clear he1 HCh
      by_cases hz : e1 = 0
      · have hne : (e1 != 0) = false := by simp [hz]
        have HZ : Hid (e1 = 0) := hz
        clear hz
        go_wp2_with fail
        refine HH.out.mono ?_
        rintro e w1 ⟨rfl, hb1⟩
        have hb2 : Below w.heap.size w w1 := hbel.trans (hb1.mono hbel.size)
        have c5 : w1.cell? ⟨b, off + k * 2 + 1, none⟩ = some (.slice a2 n2 c2) := (hb2.cell (p := ⟨b, off + k * 2 + 1, none⟩) hB).trans Q2.out
        clear hb1 HH c0
        by_cases hn2 : 2 < n2
        · have hd : decide ((2 : Int) < (n2 : Int)) = true := by simp; omega
          have hd' : decide (2 < n2) = true := by simp; omega
          have HF : Aside (M.pr k C.2 = false) := M.pr_long k C.2 (by rw [H2.out.1]; exact hn2)
          go_wp2_with fail
          go_quiet (fail)
          go_wp2
          go_ret
          exact ⟨ret_int (A.out.symm.trans (M.dchkF_form k L (by rw [HL.out]; exact hlt) C HX.out (by rw [← HE1.out]; exact HZ.out) HF.out)).symm, below_drewN hb2 _⟩
        · have hd : decide ((2 : Int) < (n2 : Int)) = false := by simp; omega
          have hd' : decide (2 < n2) = false := by simp; omega
          by_cases h2 : n2 = 2
          · subst h2
            obtain ⟨pb, po, rfl, hpB, hpc⟩ : ∃ pb po, a2 = some ⟨pb, po, none⟩ ∧ pb < w.heap.size ∧ ∀ i, i < 2 → w.cell? ⟨pb, po + i, none⟩ = some (.int .i64 (C.2.getD i 0)) := by
              rcases H2.out.cases with ⟨h0, _⟩ | ⟨pb, po, e, _, _, hpB, hpc⟩
              · omega
              · exact ⟨pb, po, e, hpB, hpc⟩
            obtain ⟨x0, hx0⟩ : ∃ x, C.2.getD 0 0 = x := ⟨_, rfl⟩
            obtain ⟨x1, hx1⟩ : ∃ x, C.2.getD 1 0 = x := ⟨_, rfl⟩
            have p0 : w1.cell? ⟨pb, po, none⟩ = some (.int .i64 x0) := by rw [hb2.cell (p := ⟨pb, po, none⟩) hpB]; have := hpc 0 (by omega); rw [hx0] at this; exact this
            have p1 : w1.cell? ⟨pb, po + 1, none⟩ = some (.int .i64 x1) := by rw [hb2.cell (p := ⟨pb, po + 1, none⟩) hpB]; have := hpc 1 (by omega); rw [hx1] at this; exact this
            have HX0 : Aside (C.2.getD 0 0 = x0) := hx0
            have HX1 : Aside (C.2.getD 1 0 = x1) := hx1
            have HPC : Aside (∀ i, i < 2 → w.cell? ⟨pb, po + i, none⟩ = some (.int .i64 (C.2.getD i 0))) := hpc
            clear hpc hx0 hx1 hd hd' hn2
            by_cases hge : x1 ≤ x0
            · have hdg : decide (x1 ≤ x0) = true := by simp [hge]
              have HF : Aside (M.pr k C.2 = false) := by
                unfold Aside
                by_cases hp : M.pr k C.2 = true
                · have h9 := ((M.pr_ref k C.2).1 hp).2.1 H2.out.1
                  rw [HX0.out, HX1.out] at h9
                  omega
                · simpa using hp
              go_wp2_with fail
              go_quiet (fail)
              go_wp2
              go_ret
              exact ⟨ret_int (A.out.symm.trans (M.dchkF_form k L (by rw [HL.out]; exact hlt) C HX.out (by rw [← HE1.out]; exact HZ.out) HF.out)).symm, below_drewN hb2 _⟩
            · have hdg : decide (x1 ≤ x0) = false := by simp; omega
              have HOrd : Aside (C.2.getD 0 0 < C.2.getD 1 0) := by unfold Aside; rw [HX0.out, HX1.out]; omega
              go_wp2_with fail
              go_quiet (fail)
              go_wp2
              go_loopg [6] 2 (fun g2 i ws => ∃ j : Nat, j + g2 = 2 ∧ i = .int .i64 j ∧ Below w.heap.size w ws ∧ Aside (∀ p ∈ C.2.take j, 0 ≤ p ∧ p < (k : Int)))
              case atStart => exact ⟨0, by omega, rfl, below_drewN hb2 _, by simp [Aside]⟩
              case round =>
                obtain ⟨j, hj, rfl, hb3, HIn⟩ := hrel
                by_cases hjl : j < 2
                · have hpc := HPC.out
                  obtain ⟨x, hx⟩ : ∃ x, C.2.getD j 0 = x := ⟨_, rfl⟩
                  have cx : wr.cell? ⟨pb, po + j, none⟩ = some (.int .i64 x) := by rw [hb3.cell (p := ⟨pb, po + j, none⟩) hpB, hpc j hjl, hx]
                  have HXm : Aside (x ∈ C.2) := by unfold Aside; rw [← hx]; have h2 := H2.out.1; simp [List.getD, h2, hjl]
                  have HTk : Aside (C.2.take (j + 1) = C.2.take j ++ [x]) := by unfold Aside; rw [List.take_succ_eq_append_getElem (by rw [H2.out.1]; exact hjl), ← hx]; have h2 := H2.out.1; simp [List.getD, h2, hjl]
                  clear hx hpc
                  have hji : (j : Int) < 2 := by omega
                  by_cases hw : 0 ≤ x ∧ x < (k : Int)
                  · have HW : Hid (∀ W, Calls Try.prog 50 #[.int .i64 x, .int .i64 0, .int .i64 ((k : Int) - 1)] W fun e w' => e = .returned (.bool true) ∧ w' = W) := fun W => within_yes x 0 ((k : Int) - 1) W hw.1 (by omega)
                    have HIn' : Aside (∀ p ∈ C.2.take (j + 1), 0 ≤ p ∧ p < (k : Int)) := by
                      intro p hp
                      rw [HTk.out] at hp
                      rcases List.mem_append.1 hp with hp | hp
                      · exact HIn.out p hp
                      · have : p = x := by simpa using hp
                        rw [this]; exact hw
                    clear hw
                    go_wp2_with fail
                    refine (HW.out _).mono ?_
                    rintro e w4 ⟨rfl, hw4⟩
                    subst hw4
                    go_wp2
                    go_roundg (gk - 1)
                    case measure => omega
                    case rel => exact ⟨j + 1, by omega, by go_num, hb3, HIn'⟩
                  · have HW : Hid (∀ W, Calls Try.prog 50 #[.int .i64 x, .int .i64 0, .int .i64 ((k : Int) - 1)] W fun e w' => e = .returned (.bool false) ∧ w' = W) := fun W => within_no x 0 ((k : Int) - 1) W (by omega)
                    have HF : Aside (M.pr k C.2 = false) := by
                      unfold Aside
                      by_cases hp : M.pr k C.2 = true
                      · exact absurd (((M.pr_ref k C.2).1 hp).2.2 x HXm.out) hw
                      · simpa using hp
                    clear hw
                    go_wp2_with fail
                    refine (HW.out _).mono ?_
                    rintro e w4 ⟨rfl, hw4⟩
                    subst hw4
                    go_wp2
                    go_ret
                    exact ⟨ret_int (A.out.symm.trans (M.dchkF_form k L (by rw [HL.out]; exact hlt) C HX.out (by rw [← HE1.out]; exact HZ.out) HF.out)).symm, hb3⟩
                · obtain rfl : j = 2 := by omega
                  have HT : Aside (M.pr k C.2 = true) := by
                    refine (M.pr_ref k C.2).2 ⟨by rw [H2.out.1]; omega, fun hl2 => HOrd.out, fun p hp => HIn.out p ?_⟩
                    rw [List.take_of_length_le (by rw [H2.out.1]; exact Nat.le_refl _)]; exact hp
                  go_wp2
                  go_roundg (n - (k + 1))
                  case measure => omega
                  case rel => exact ⟨k + 1, by omega, by go_num, hb3, by unfold Aside; rw [← A.out, M.dchkF_good k L (by rw [HL.out]; exact hlt) C HX.out (by rw [← HE1.out]; exact HZ.out) HT.out]⟩
          · have hdb : ((n2 : Int) == 2) = false := by simp; omega
            go_wp2_with fail
            go_quiet (fail)
            go_wp2
            go_loopg [6] n2 (fun g2 i ws => ∃ j : Nat, j + g2 = n2 ∧ i = .int .i64 j ∧ Below w.heap.size w ws ∧ Aside (∀ p ∈ C.2.take j, 0 ≤ p ∧ p < (k : Int)))
            case atStart => exact ⟨0, by omega, rfl, below_drewN hb2 _, by simp [Aside]⟩
            case round =>
              obtain ⟨j, hj, rfl, hb3, HIn⟩ := hrel
              by_cases hjl : j < n2
              · obtain ⟨pb, po, rfl, hpB, hpc⟩ : ∃ pb po, a2 = some ⟨pb, po, none⟩ ∧ pb < w.heap.size ∧ ∀ i, i < n2 → w.cell? ⟨pb, po + i, none⟩ = some (.int .i64 (C.2.getD i 0)) := by
                  rcases H2.out.cases with ⟨h0, _⟩ | ⟨pb, po, e, _, _, hpB, hpc⟩
                  · omega
                  · exact ⟨pb, po, e, hpB, hpc⟩
                obtain ⟨x, hx⟩ : ∃ x, C.2.getD j 0 = x := ⟨_, rfl⟩
                have cx : wr.cell? ⟨pb, po + j, none⟩ = some (.int .i64 x) := by rw [hb3.cell (p := ⟨pb, po + j, none⟩) hpB, hpc j hjl, hx]
                have HXm : Aside (x ∈ C.2) := by unfold Aside; rw [← hx]; have h2 := H2.out.1; simp [List.getD, h2, hjl]
                have HTk : Aside (C.2.take (j + 1) = C.2.take j ++ [x]) := by unfold Aside; rw [List.take_succ_eq_append_getElem (by rw [H2.out.1]; exact hjl), ← hx]; have h2 := H2.out.1; simp [List.getD, h2, hjl]
                clear hx hpc
                have hji : (j : Int) < (n2 : Int) := by omega
                by_cases hw : 0 ≤ x ∧ x < (k : Int)
                · have HW : Hid (∀ W, Calls Try.prog 50 #[.int .i64 x, .int .i64 0, .int .i64 ((k : Int) - 1)] W fun e w' => e = .returned (.bool true) ∧ w' = W) := fun W => within_yes x 0 ((k : Int) - 1) W hw.1 (by omega)
                  have HIn' : Aside (∀ p ∈ C.2.take (j + 1), 0 ≤ p ∧ p < (k : Int)) := by
                    intro p hp
                    rw [HTk.out] at hp
                    rcases List.mem_append.1 hp with hp | hp
                    · exact HIn.out p hp
                    · have : p = x := by simpa using hp
                      rw [this]; exact hw
                  clear hw
                  go_wp2_with fail
                  refine (HW.out _).mono ?_
                  rintro e w4 ⟨rfl, hw4⟩
                  subst hw4
                  go_wp2
                  go_roundg (gk - 1)
                  case measure => omega
                  case rel => exact ⟨j + 1, by omega, by go_num, hb3, HIn'⟩
                · have HW : Hid (∀ W, Calls Try.prog 50 #[.int .i64 x, .int .i64 0, .int .i64 ((k : Int) - 1)] W fun e w' => e = .returned (.bool false) ∧ w' = W) := fun W => within_no x 0 ((k : Int) - 1) W (by omega)
                  have HF : Aside (M.pr k C.2 = false) := by
                    unfold Aside
                    by_cases hp : M.pr k C.2 = true
                    · exact absurd (((M.pr_ref k C.2).1 hp).2.2 x HXm.out) hw
                    · simpa using hp
                  clear hw
                  go_wp2_with fail
                  refine (HW.out _).mono ?_
                  rintro e w4 ⟨rfl, hw4⟩
                  subst hw4
                  go_wp2
                  go_ret
                  exact ⟨ret_int (A.out.symm.trans (M.dchkF_form k L (by rw [HL.out]; exact hlt) C HX.out (by rw [← HE1.out]; exact HZ.out) HF.out)).symm, hb3⟩
              · obtain rfl : j = n2 := by omega
                have HT : Aside (M.pr k C.2 = true) := by
                  refine (M.pr_ref k C.2).2 ⟨by rw [H2.out.1]; omega, fun hl2 => absurd (H2.out.1.symm.trans hl2) h2, fun p hp => HIn.out p ?_⟩
                  rw [List.take_of_length_le (by rw [H2.out.1]; exact Nat.le_refl _)]; exact hp
                go_wp2
                go_roundg (n - (k + 1))
                case measure => omega
                case rel => exact ⟨k + 1, by omega, by go_num, hb3, by unfold Aside; rw [← A.out, M.dchkF_good k L (by rw [HL.out]; exact hlt) C HX.out (by rw [← HE1.out]; exact HZ.out) HT.out]⟩
      · have hne : (e1 != 0) = true := by simp [hz]
        have HZ : Hid (e1 ≠ 0) := hz
        clear hz
        go_wp2_with fail
        refine HH.out.mono ?_
        rintro e w1 ⟨rfl, hb1⟩
        have hb2 : Below w.heap.size w w1 := hbel.trans (hb1.mono hbel.size)
        clear hb1
        go_wp2
        go_ret
        exact ⟨ret_int (by rw [← A.out, M.dchkF_bad k L (by rw [HL.out]; exact hlt) C HX.out (by rw [← HE1.out]; exact HZ.out)]; exact HE1.out), hb2⟩
    · go_wp2
      go_ret
      exact ⟨ret_int (A.out.symm.trans (M.dchkF_end k L (by rw [HL.out]; omega))).symm, hbel⟩

theorem cerror_any (a : Option Addr) (n cap : Nat) (L : List M.Com) (w : World) (h : Cm w a n L) (hm : n ≤ 9223372036854775807) :
    Calls Try.prog 28 #[.slice a n cap] w fun e w' => e = .returned (.int .i64 (M.dchk L)) ∧ Below w.heap.size w w' := by
  by_cases h14 : 14 < n
  · refine (cerror_many a n cap w h14 hm).mono ?_
    rintro e w' ⟨rfl, rfl⟩
    exact ⟨by rw [M.dchk_many L (by rw [h.1]; exact h14)], Below.refl _ _⟩
  · have e := M.dchk_few L (by rw [h.1]; omega)
    rcases h.cases with ⟨rfl, rfl⟩ | ⟨b, off, rfl, hn, hl, hB, hc⟩
    · refine (cerror_none a cap w).mono ?_
      rintro e w' ⟨rfl, rfl⟩
      exact ⟨rfl, Below.refl _ _⟩
    · rw [e]
      exact cerror_some b off n cap L w (by omega) hl hB hc

/-- The error of one of the commits. -/
def M.dask (L : List M.Com) (x : Int) : Int := if M.dchk L ≠ 0 then M.dchk L else if x < 0 ∨ (L.length : Int) ≤ x then 5 else 0
end Go.Proofs.Ytcgpgflnihjpiad
