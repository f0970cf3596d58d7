/- The reference on commits: CommitsError. -/
import Derived.Test.YtcgpgflnihjpiaeGreatBWorkHeads01
import Derived.Test.YtcgpgflnihjpiaeGreatBWorkHeads03
import Derived.Test.YtcgpgflnihjpiaeGreatBWorkHeads02
import Derived.Test.YtcgpgflnihjpiaeGreatBWorkHeads09
import Derived.Test.YtcgpgflnihjpiaeGreatBWorkHeads07
import Derived.Test.YtcgpgflnihjpiaeGreatBWorkHeads08
namespace Go.Proofs.YtcgpgflnihjpiaeGreat
namespace M
theorem pr_ref (c : Nat) (ps : List Int) : pr c ps = true ↔ ps.length ≤ 2 ∧ (ps.length = 2 → ps.getD 0 0 < ps.getD 1 0) ∧ ∀ p ∈ ps, 0 ≤ p ∧ p < (c : Int) := by
  match ps with
  | [] => simp [pr, ris]
  | [a] => simp [pr, ris]; omega
  | [a, b] => simp [pr, ris]; omega
  | a :: b :: d :: t => simp [pr]
end M
open Go.RowKit

theorem cerror_many (a : Option Addr) (n cap : Nat) (w : World) (h : 14 < n) (hm : n ≤ 9223372036854775807) :
    Calls Tryz.prog 88 #[.slice a n cap] w fun e w' => e = .returned (.int .i64 2) ∧ w' = w := by
  go_enter Tryz.func88, Tryz.ntmps88
  go_wp2
  go_ret
  exact ⟨rfl, rfl⟩
theorem cerror_none (a : Option Addr) (cap : Nat) (w : World) :
    Calls Tryz.prog 88 #[.slice a 0 cap] w fun e w' => e = .returned (.int .i64 0) ∧ w' = w := by
  go_enter Tryz.func88, Tryz.ntmps88
  go_wp2
  refine wp_loop_rounds 1 ?_
  rw [rounds_succ]
  go_wp2
  go_ret
  exact ⟨rfl, rfl⟩

set_option maxHeartbeats 8000000 in
theorem cerror_some (b off n cap : Nat) (L : List M.Com) (w : World) (hn : n ≤ 14) (hl : L.length = n) (hB : b < w.heap.size)
    (hc : ∀ i, i < n → ∃ a1 n1 c1 a2 n2 c2, w.cell? ⟨b, off + i * 2, none⟩ = some (.slice a1 n1 c1) ∧ w.cell? ⟨b, off + i * 2 + 1, none⟩ = some (.slice a2 n2 c2) ∧ Rd w a1 n1 (L.getD i ([], [])).1 ∧ Ri w a2 n2 (L.getD i ([], [])).2 ∧ n1 ≤ 9223372036854775807 ∧ n2 ≤ 9223372036854775807) :
    Calls Tryz.prog 88 #[.slice (some ⟨b, off, none⟩) n cap] w fun e w' => e = .returned (.int .i64 (M.dchkF 0 L)) ∧ Below w.heap.size w w' := by
  have HC : Aside (∀ i, i < n → ∃ a1 n1 c1 a2 n2 c2, w.cell? ⟨b, off + i * 2, none⟩ = some (.slice a1 n1 c1) ∧ w.cell? ⟨b, off + i * 2 + 1, none⟩ = some (.slice a2 n2 c2) ∧ Rd w a1 n1 (L.getD i ([], [])).1 ∧ Ri w a2 n2 (L.getD i ([], [])).2 ∧ n1 ≤ 9223372036854775807 ∧ n2 ≤ 9223372036854775807) := hc
  have HL : Aside (L.length = n) := hl
  clear hc hl
  go_enter Tryz.func88, Tryz.ntmps88
  go_wp2
  go_loopg [3] n (fun g i wr => ∃ (k : Nat), k + g = n ∧ i = .int .i64 k ∧ Below w.heap.size w wr ∧ Aside (M.dchkF k (L.drop k) = M.dchkF 0 L))
  case atStart => exact ⟨0, by omega, rfl, Below.refl _ _, by simp [Aside]⟩
  case round =>
    obtain ⟨k, hk, rfl, hbel, A⟩ := hrel
    have hsz := hbel.size
    by_cases hlt : k < n
    · obtain ⟨a1, n1, c1, a2, n2, c2, q1, q2, r1, r2, m1, m2⟩ := HC.out k hlt
      obtain ⟨C, hC⟩ : ∃ C, L.getD k ([], []) = C := ⟨_, rfl⟩
      rw [hC] at r1 r2
      have c0 : wr.cell? ⟨b, off + k * 2, none⟩ = some (.slice a1 n1 c1) := (hbel.cell (p := ⟨b, off + k * 2, none⟩) hB).trans q1
      have HCh := error_any a1 n1 c1 C.1 wr (r1.below hbel (Nat.le_refl _)) m1
      have HX : Aside (L.getD k ([], []) = C) := hC
      have H2 : Hid (Ri w a2 n2 C.2) := r2
      have Q2 : Hid (w.cell? ⟨b, off + k * 2 + 1, none⟩ = some (.slice a2 n2 c2)) := q2
      have hki : (k : Int) < (n : Int) := by omega
      clear hC r1 r2 q1 q2
      obtain ⟨e1, he1⟩ : ∃ e1, e1 = M.chk C.1 := ⟨_, rfl⟩
      rw [← he1] at HCh
      have HE1 : Hid (e1 = M.chk C.1) := he1
      have HH : Hid (Calls Tryz.prog 65 #[.slice a1 n1 c1] wr fun e w' => e = .returned (.int .i64 e1) ∧ Below wr.heap.size wr w') := HCh
      clear he1 HCh
      by_cases hz : e1 = 0
      · have hne : (e1 != 0) = false := by simp [hz]
        have HZ : Hid (e1 = 0) := hz
        clear hz
        go_wp2_with fail
        refine HH.out.mono ?_
        rintro e w1 ⟨rfl, hb1⟩
        have hb2 : Below w.heap.size w w1 := hbel.trans (hb1.mono hbel.size)
        have c5 : w1.cell? ⟨b, off + k * 2 + 1, none⟩ = some (.slice a2 n2 c2) := (hb2.cell (p := ⟨b, off + k * 2 + 1, none⟩) hB).trans Q2.out
        clear hb1 HH c0
        by_cases hn2 : 2 < n2
        · have hd : decide ((2 : Int) < (n2 : Int)) = true := by simp; omega
          have hd' : decide (2 < n2) = true := by simp; omega
          have HF : Aside (M.pr k C.2 = false) := M.pr_long k C.2 (by rw [H2.out.1]; exact hn2)
          go_wp2_with fail
          go_quiet (fail)
          go_wp2
          go_ret
          exact ⟨ret_int (A.out.symm.trans (M.dchkF_form k L (by rw [HL.out]; exact hlt) C HX.out (by rw [← HE1.out]; exact HZ.out) HF.out)).symm, below_drewN hb2 _⟩
        · have hd : decide ((2 : Int) < (n2 : Int)) = false := by simp; omega
          have hd' : decide (2 < n2) = false := by simp; omega
          by_cases h2 : n2 = 2
          · subst h2
            obtain ⟨pb, po, rfl, hpB, hpc⟩ : ∃ pb po, a2 = some ⟨pb, po, none⟩ ∧ pb < w.heap.size ∧ ∀ i, i < 2 → w.cell? ⟨pb, po + i, none⟩ = some (.int .i64 (C.2.getD i 0)) := by
              rcases H2.out.cases with ⟨h0, _⟩ | ⟨pb, po, e, _, _, hpB, hpc⟩
              · omega
              · exact ⟨pb, po, e, hpB, hpc⟩
            obtain ⟨x0, hx0⟩ : ∃ x, C.2.getD 0 0 = x := ⟨_, rfl⟩
            obtain ⟨x1, hx1⟩ : ∃ x, C.2.getD 1 0 = x := ⟨_, rfl⟩
            have p0 : w1.cell? ⟨pb, po, none⟩ = some (.int .i64 x0) := by rw [hb2.cell (p := ⟨pb, po, none⟩) hpB]; have := hpc 0 (by omega); rw [hx0] at this; exact this
            have p1 : w1.cell? ⟨pb, po + 1, none⟩ = some (.int .i64 x1) := by rw [hb2.cell (p := ⟨pb, po + 1, none⟩) hpB]; have := hpc 1 (by omega); rw [hx1] at this; exact this
            have HX0 : Aside (C.2.getD 0 0 = x0) := hx0
            have HX1 : Aside (C.2.getD 1 0 = x1) := hx1
            have HPC : Aside (∀ i, i < 2 → w.cell? ⟨pb, po + i, none⟩ = some (.int .i64 (C.2.getD i 0))) := hpc
            clear hpc hx0 hx1 hd hd' hn2
            by_cases hge : x1 ≤ x0
            · have hdg : decide (x1 ≤ x0) = true := by simp [hge]
              have HF : Aside (M.pr k C.2 = false) := by
                unfold Aside
                by_cases hp : M.pr k C.2 = true
                · have h9 := ((M.pr_ref k C.2).1 hp).2.1 H2.out.1
                  rw [HX0.out, HX1.out] at h9
                  omega
                · simpa using hp
              go_wp2_with fail
              go_quiet (fail)
              go_wp2
              go_ret
              exact ⟨ret_int (A.out.symm.trans (M.dchkF_form k L (by rw [HL.out]; exact hlt) C HX.out (by rw [← HE1.out]; exact HZ.out) HF.out)).symm, below_drewN hb2 _⟩
            · have hdg : decide (x1 ≤ x0) = false := by simp; omega
              have HOrd : Aside (C.2.getD 0 0 < C.2.getD 1 0) := by unfold Aside; rw [HX0.out, HX1.out]; omega
              go_wp2_with fail
              go_quiet (fail)
              go_wp2
              go_loopg [6] 2 (fun g2 i ws => ∃ j : Nat, j + g2 = 2 ∧ i = .int .i64 j ∧ Below w.heap.size w ws ∧ Aside (∀ p ∈ C.2.take j, 0 ≤ p ∧ p < (k : Int)))
              case atStart => exact ⟨0, by omega, rfl, below_drewN hb2 _, by simp [Aside]⟩
              case round =>
                obtain ⟨j, hj, rfl, hb3, HIn⟩ := hrel
                by_cases hjl : j < 2
                · have hpc := HPC.out
                  obtain ⟨x, hx⟩ : ∃ x, C.2.getD j 0 = x := ⟨_, rfl⟩
                  have cx : wr.cell? ⟨pb, po + j, none⟩ = some (.int .i64 x) := by rw [hb3.cell (p := ⟨pb, po + j, none⟩) hpB, hpc j hjl, hx]
                  have HXm : Aside (x ∈ C.2) := by unfold Aside; rw [← hx]; have h2 := H2.out.1; simp [List.getD, h2, hjl]
                  have HTk : Aside (C.2.take (j + 1) = C.2.take j ++ [x]) := by unfold Aside; rw [List.take_succ_eq_append_getElem (by rw [H2.out.1]; exact hjl), ← hx]; have h2 := H2.out.1; simp [List.getD, h2, hjl]
                  clear hx hpc
                  have hji : (j : Int) < 2 := by omega
                  by_cases hw : 0 ≤ x ∧ x < (k : Int)
                  · have HW : Hid (∀ W, Calls Tryz.prog 64 #[.int .i64 x, .int .i64 0, .int .i64 ((k : Int) - 1)] W fun e w' => e = .returned (.bool true) ∧ w' = W) := fun W => within_yes x 0 ((k : Int) - 1) W hw.1 (by omega)
                    have HIn' : Aside (∀ p ∈ C.2.take (j + 1), 0 ≤ p ∧ p < (k : Int)) := by
                      intro p hp
                      rw [HTk.out] at hp
                      rcases List.mem_append.1 hp with hp | hp
                      · exact HIn.out p hp
                      · have : p = x := by simpa using hp
                        rw [this]; exact hw
                    clear hw
                    go_wp2_with fail
                    refine (HW.out _).mono ?_
                    rintro e w4 ⟨rfl, hw4⟩
                    subst hw4
                    go_wp2
                    go_roundg (gk - 1)
                    case measure => omega
                    case rel => exact ⟨j + 1, by omega, by go_num, hb3, HIn'⟩
                  · have HW : Hid (∀ W, Calls Tryz.prog 64 #[.int .i64 x, .int .i64 0, .int .i64 ((k : Int) - 1)] W fun e w' => e = .returned (.bool false) ∧ w' = W) := fun W => within_no x 0 ((k : Int) - 1) W (by omega)
                    have HF : Aside (M.pr k C.2 = false) := by
                      unfold Aside
                      by_cases hp : M.pr k C.2 = true
                      · exact absurd (((M.pr_ref k C.2).1 hp).2.2 x HXm.out) hw
                      · simpa using hp
                    clear hw
                    go_wp2_with fail
                    refine (HW.out _).mono ?_
                    rintro e w4 ⟨rfl, hw4⟩
                    subst hw4
                    go_wp2
                    go_ret
                    exact ⟨ret_int (A.out.symm.trans (M.dchkF_form k L (by rw [HL.out]; exact hlt) C HX.out (by rw [← HE1.out]; exact HZ.out) HF.out)).symm, hb3⟩
                · obtain rfl : j = 2 := by omega
                  have HT : Aside (M.pr k C.2 = true) := by
                    refine (M.pr_ref k C.2).2 ⟨by rw [H2.out.1]; omega, fun hl2 => HOrd.out, fun p hp => HIn.out p ?_⟩
                    rw [List.take_of_length_le (by rw [H2.out.1]; exact Nat.le_refl _)]; exact hp
                  go_wp2
                  go_roundg (n - (k + 1))
                  case measure => omega
                  case rel => exact ⟨k + 1, by omega, by go_num, hb3, by unfold Aside; rw [← A.out, M.dchkF_good k L (by rw [HL.out]; exact hlt) C HX.out (by rw [← HE1.out]; exact HZ.out) HT.out]⟩
          · have hdb : ((n2 : Int) == 2) = false := by simp; omega
            go_wp2_with fail
            go_quiet (fail)
            go_wp2
            go_loopg [6] n2 (fun g2 i ws => ∃ j : Nat, j + g2 = n2 ∧ i = .int .i64 j ∧ Below w.heap.size w ws ∧ Aside (∀ p ∈ C.2.take j, 0 ≤ p ∧ p < (k : Int)))
            case atStart => exact ⟨0, by omega, rfl, below_drewN hb2 _, by simp [Aside]⟩
            case round =>
              obtain ⟨j, hj, rfl, hb3, HIn⟩ := hrel
              by_cases hjl : j < n2
              · obtain ⟨pb, po, rfl, hpB, hpc⟩ : ∃ pb po, a2 = some ⟨pb, po, none⟩ ∧ pb < w.heap.size ∧ ∀ i, i < n2 → w.cell? ⟨pb, po + i, none⟩ = some (.int .i64 (C.2.getD i 0)) := by
                  rcases H2.out.cases with ⟨h0, _⟩ | ⟨pb, po, e, _, _, hpB, hpc⟩
                  · omega
                  · exact ⟨pb, po, e, hpB, hpc⟩
                obtain ⟨x, hx⟩ : ∃ x, C.2.getD j 0 = x := ⟨_, rfl⟩
                have cx : wr.cell? ⟨pb, po + j, none⟩ = some (.int .i64 x) := by rw [hb3.cell (p := ⟨pb, po + j, none⟩) hpB, hpc j hjl, hx]
                have HXm : Aside (x ∈ C.2) := by unfold Aside; rw [← hx]; have h2 := H2.out.1; simp [List.getD, h2, hjl]
                have HTk : Aside (C.2.take (j + 1) = C.2.take j ++ [x]) := by unfold Aside; rw [List.take_succ_eq_append_getElem (by rw [H2.out.1]; exact hjl), ← hx]; have h2 := H2.out.1; simp [List.getD, h2, hjl]
                clear hx hpc
                have hji : (j : Int) < (n2 : Int) := by omega
                by_cases hw : 0 ≤ x ∧ x < (k : Int)
                · have HW : Hid (∀ W, Calls Tryz.prog 64 #[.int .i64 x, .int .i64 0, .int .i64 ((k : Int) - 1)] W fun e w' => e = .returned (.bool true) ∧ w' = W) := fun W => within_yes x 0 ((k : Int) - 1) W hw.1 (by omega)
                  have HIn' : Aside (∀ p ∈ C.2.take (j + 1), 0 ≤ p ∧ p < (k : Int)) := by
                    intro p hp
                    rw [HTk.out] at hp
                    rcases List.mem_append.1 hp with hp | hp
                    · exact HIn.out p hp
                    · have : p = x := by simpa using hp
                      rw [this]; exact hw
                  clear hw
                  go_wp2_with fail
                  refine (HW.out _).mono ?_
                  rintro e w4 ⟨rfl, hw4⟩
                  subst hw4
                  go_wp2
                  go_roundg (gk - 1)
                  case measure => omega
                  case rel => exact ⟨j + 1, by omega, by go_num, hb3, HIn'⟩
                · have HW : Hid (∀ W, Calls Tryz.prog 64 #[.int .i64 x, .int .i64 0, .int .i64 ((k : Int) - 1)] W fun e w' => e = .returned (.bool false) ∧ w' = W) := fun W => within_no x 0 ((k : Int) - 1) W (by omega)
                  have HF : Aside (M.pr k C.2 = false) := by
                    unfold Aside
                    by_cases hp : M.pr k C.2 = true
                    · exact absurd (((M.pr_ref k C.2).1 hp).2.2 x HXm.out) hw
                    · simpa using hp
                  clear hw
                  go_wp2_with fail
                  refine (HW.out _).mono ?_
                  rintro e w4 ⟨rfl, hw4⟩
                  subst hw4
                  go_wp2
                  go_ret
                  exact ⟨ret_int (A.out.symm.trans (M.dchkF_form k L (by rw [HL.out]; exact hlt) C HX.out (by rw [← HE1.out]; exact HZ.out) HF.out)).symm, hb3⟩
              · obtain rfl : j = n2 := by omega
                have HT : Aside (M.pr k C.2 = true) := by
                  refine (M.pr_ref k C.2).2 ⟨by rw [H2.out.1]; omega, fun hl2 => absurd (H2.out.1.symm.trans hl2) h2, fun p hp => HIn.out p ?_⟩
                  rw [List.take_of_length_le (by rw [H2.out.1]; exact Nat.le_refl _)]; exact hp
                go_wp2
                go_roundg (n - (k + 1))
                case measure => omega
                case rel => exact ⟨k + 1, by omega, by go_num, hb3, by unfold Aside; rw [← A.out, M.dchkF_good k L (by rw [HL.out]; exact hlt) C HX.out (by rw [← HE1.out]; exact HZ.out) HT.out]⟩
      · have hne : (e1 != 0) = true := by simp [hz]
        have HZ : Hid (e1 ≠ 0) := hz
        clear hz
        go_wp2_with fail
        refine HH.out.mono ?_
        rintro e w1 ⟨rfl, hb1⟩
        have hb2 : Below w.heap.size w w1 := hbel.trans (hb1.mono hbel.size)
        clear hb1
        go_wp2
        go_ret
        exact ⟨ret_int (by rw [← A.out, M.dchkF_bad k L (by rw [HL.out]; exact hlt) C HX.out (by rw [← HE1.out]; exact HZ.out)]; exact HE1.out), hb2⟩
    · go_wp2
      go_ret
      exact ⟨ret_int (A.out.symm.trans (M.dchkF_end k L (by rw [HL.out]; omega))).symm, hbel⟩

theorem cerror_any (a : Option Addr) (n cap : Nat) (L : List M.Com) (w : World) (h : Cm w a n L) (hm : n ≤ 9223372036854775807) :
    Calls Tryz.prog 88 #[.slice a n cap] w fun e w' => e = .returned (.int .i64 (M.dchk L)) ∧ Below w.heap.size w w' := by
  by_cases h14 : 14 < n
  · refine (cerror_many a n cap w h14 hm).mono ?_
    rintro e w' ⟨rfl, rfl⟩
    exact ⟨by rw [M.dchk_many L (by rw [h.1]; exact h14)], Below.refl _ _⟩
  · have e := M.dchk_few L (by rw [h.1]; omega)
    rcases h.cases with ⟨rfl, rfl⟩ | ⟨b, off, rfl, hn, hl, hB, hc⟩
    · refine (cerror_none a cap w).mono ?_
      rintro e w' ⟨rfl, rfl⟩
      exact ⟨rfl, Below.refl _ _⟩
    · rw [e]
      exact cerror_some b off n cap L w (by omega) hl hB hc

/-- The error of one of the commits. -/
def M.dask (L : List M.Com) (x : Int) : Int := if M.dchk L ≠ 0 then M.dchk L else if x < 0 ∨ (L.length : Int) ≤ x then 5 else 0
end Go.Proofs.YtcgpgflnihjpiaeGreat

/- The reference's IsName. -/
namespace Go.Proofs.YtcgpgflnihjpiaeGreat
open Go.RowKit Go.PlainAid

set_option maxHeartbeats 2000000 in
theorem rname_any (s : ByteArray) (w : World) (hm : s.size ≤ 9223372036854775807) :
    Calls Tryz.prog 43 #[.string s] w fun e w' => e = .returned (.bool (M.nam s)) ∧ Below w.heap.size w w' := by
  have hbt := get_bt s
  go_enter Tryz.func43, Tryz.ntmps43
  go_wp2
  go_loopg [3] s.size (fun g i wr => ∃ (k : Nat), k + g = s.size ∧ i = .int .i64 k ∧ wr = w ∧ Aside (M.lets s k = M.lets s 0))
  case atStart => exact ⟨0, by omega, rfl, rfl, rfl⟩
  case round =>
    obtain ⟨k, hk, rfl, rfl, A⟩ := hrel
    by_cases hlt : k < s.size
    · have hki : (k : Int) < (s.size : Int) := by omega
      by_cases hl : 97 ≤ bt s k ∧ bt s k ≤ 122
      · have A2 : Aside (M.lets s (k + 1) = M.lets s 0) := by unfold Aside; rw [← M.lets_good s k hl.1 hl.2]; exact A.out
        have h1 : decide (bt s k < 97) = false := by simp; omega
        have h2 : decide (122 < bt s k) = false := by simp; omega
        clear hl A
        go_wp2
        go_roundg (gk - 1)
        case measure => omega
        case rel => exact ⟨k + 1, by omega, by go_num, rfl, A2⟩
      · have A2 : Aside (M.lets s 0 = false) := by unfold Aside; rw [← A.out]; exact M.lets_bad s k hlt (by omega)
        have E : Aside (M.nam s = false) := by unfold Aside M.nam; rw [A2.out]; simp
        clear A
        by_cases h7 : bt s k < 97
        · have h1 : decide (bt s k < 97) = true := by simp [h7]
          clear hl h7
          go_wp2
          go_ret
          exact ⟨ret_bool E.out.symm, Below.refl _ _⟩
        · have h1 : decide (bt s k < 97) = false := by simp; omega
          have h2 : decide (122 < bt s k) = true := by simp; omega
          clear hl h7
          go_wp2
          go_ret
          exact ⟨ret_bool E.out.symm, Below.refl _ _⟩
    · have A2 : Aside (M.lets s 0 = true) := by unfold Aside; rw [← A.out]; exact M.lets_end s k (by omega)
      clear A
      by_cases h8 : 1 ≤ s.size ∧ s.size ≤ 8
      · have HW : Hid (∀ W, Calls Tryz.prog 64 #[.int .i64 (s.size : Int), .int .i64 1, .int .i64 8] W fun e w' => e = .returned (.bool true) ∧ w' = W) := fun W => within_yes _ 1 8 W (by omega) (by omega)
        have E : Aside (M.nam s = true) := by unfold Aside; rw [M.nam_few s (by omega) (by omega)]; exact A2.out
        go_wp2_with (go_at_call 64; refine (HW.out _).mono ?_; rintro e w2 ⟨rfl, rfl⟩)
        go_ret
        exact ⟨ret_bool E.out.symm, Below.refl _ _⟩
      · have HW : Hid (∀ W, Calls Tryz.prog 64 #[.int .i64 (s.size : Int), .int .i64 1, .int .i64 8] W fun e w' => e = .returned (.bool false) ∧ w' = W) := fun W => within_no _ 1 8 W (by omega)
        have E : Aside (M.nam s = false) := by
          unfold Aside
          by_cases h0 : s.size = 0
          · exact M.nam_none s h0
          · exact M.nam_long s (by omega)
        go_wp2_with (go_at_call 64; refine (HW.out _).mono ?_; rintro e w2 ⟨rfl, rfl⟩)
        go_ret
        exact ⟨ret_bool E.out.symm, Below.refl _ _⟩
end Go.Proofs.YtcgpgflnihjpiaeGreat

/- The reference's RepoError, headAt, HeadOf. -/
namespace Go.Proofs.YtcgpgflnihjpiaeGreat
open Go.RowKit

set_option maxHeartbeats 8000000 in
theorem rerror_any (a : Option Addr) (n cap : Nat) (C : List M.Com) (a2 : Option Addr) (n2 cap2 : Nat) (H : List M.Hd) (w : World) (hC : Cm w a n C) (hn : n ≤ 9223372036854775807) (hH : Hs w a2 n2 H) (hn2 : n2 ≤ 9223372036854775807) :
    Calls Tryz.prog 62 #[.agg #[.slice a n cap, .slice a2 n2 cap2]] w fun e w' => e = .returned (.int .i64 (M.rchk C H)) ∧ Below w.heap.size w w' := by
  obtain ⟨p, hp⟩ : ∃ p, p = w.heap.size := ⟨_, rfl⟩
  have I0 := InBox.new w a n cap C a2 n2 cap2 H hC hH
  obtain ⟨W, hW⟩ : ∃ W, W = w.alloc (.cells #[.slice a n cap, .slice a2 n2 cap2] 25) := ⟨_, rfl⟩
  have hb : Below w.heap.size w W := by rw [hW]; exact (Below.refl _ _).alloc (Nat.le_refl _) _
  rw [← hW, ← hp] at I0
  have q0 := I0.c0
  have HD := cerror_any a n cap C W I0.cm hn
  obtain ⟨c, hc⟩ : ∃ c, c = M.dchk C := ⟨_, rfl⟩
  rw [← hc] at HD
  have HCc : Aside (c = M.dchk C) := hc
  have HDD : Hid (Calls Tryz.prog 88 #[.slice a n cap] W fun e w' => e = .returned (.int .i64 c) ∧ Below W.heap.size W w') := HD
  have HI : Aside (InBox W p a n cap C a2 n2 cap2 H) := I0
  have HW : Hid (W = w.alloc (.cells #[.slice a n cap, .slice a2 n2 cap2] 25)) := hW
  have HP : Aside (p = w.heap.size) := hp
  have HHl : Aside (H.length = n2) := hH.1
  have HCl : Aside (C.length = n) := hC.1
  clear hW HD hc hp I0 hC hH
  go_enter Tryz.func62, Tryz.ntmps62
  go_wp2_with fail
  rw [← HW.out, ← HP.out]
  refine HDD.out.mono ?_
  rintro e w1 ⟨rfl, hb1⟩
  have J1 := HI.out.below hb1
  have d0 := J1.c0
  have d1 := J1.c1
  have HJ : Aside (InBox w1 p a n cap C a2 n2 cap2 H) := J1
  have hbw1 : Below w.heap.size w w1 := hb.trans (hb1.mono hb.size)
  clear J1 q0 hb1
  by_cases hz : c = 0
  · have hne : (c != 0) = false := by simp [hz]
    have HZ : Aside (M.dchk C = 0) := by unfold Aside; rw [← HCc.out]; exact hz
    clear hz
    by_cases h4 : 4 < n2
    · have E : Aside (M.rchk C H = 2) := by unfold Aside M.rchk; rw [if_neg (by rw [HZ.out]; simp), if_pos (by rw [HHl.out]; exact h4)]
      have h4' : decide (4 < (n2 : Int)) = true := by simp; omega
      go_wp2
      go_ret
      exact ⟨ret_int E.out.symm, hbw1⟩
    · have h4' : decide (4 < (n2 : Int)) = false := by simp; omega
      have E1 : Aside (M.rchk C H = if M.named H = false then 4 else if M.inside C.length H = false then 1 else if M.rise H = false then 1 else 0) := by unfold Aside M.rchk; rw [if_neg (by rw [HZ.out]; simp), if_neg (by rw [HHl.out]; exact h4)]
      have hn14 : n ≤ 14 := by rw [← HCl.out]; exact (M.dchk_zero HZ.out).1
      go_wp2
      go_loopg [4] n2 (fun g i wr => ∃ (k : Nat), k + g = n2 ∧ i = .int .i64 k ∧ Below w1.heap.size w1 wr ∧ Aside (∀ j, j < k → M.nam (H.getD j M.hd0).1 = true))
      case atStart => exact ⟨0, by omega, rfl, Below.refl _ _, fun j hj => by omega⟩
      case round =>
        obtain ⟨k, hk, rfl, hbel, A⟩ := hrel
        have J2 := HJ.out.below hbel
        have e1 := J2.c1
        have hbw : Below w.heap.size w wr := hbw1.trans (hbel.mono hbw1.size)
        by_cases hlt : k < n2
        · obtain ⟨x, hx⟩ : ∃ x, H.getD k M.hd0 = x := ⟨_, rfl⟩
          obtain ⟨b, off, rfl, c3, hsz⟩ : ∃ b off, a2 = some ⟨b, off, none⟩ ∧ wr.cell? ⟨b, off + k * 2, none⟩ = some (.string x.1) ∧ x.1.size ≤ 9223372036854775807 := by
            rcases J2.hs.cases with ⟨h0, _⟩ | ⟨b, off, ea, _, _, hB, hc⟩
            · omega
            · exact ⟨b, off, ea, by rw [(hc k hlt).1, hx], by have := (hc k hlt).2.2; rw [hx] at this; exact this⟩
          have hN := rname_any x.1 wr hsz
          obtain ⟨t, ht⟩ : ∃ t, M.nam x.1 = t := ⟨_, rfl⟩
          rw [ht] at hN
          have HN : Hid (Calls Tryz.prog 43 #[.string x.1] wr fun e w' => e = .returned (.bool t) ∧ Below wr.heap.size wr w') := hN
          have HT : Aside (M.nam (H.getD k M.hd0).1 = t) := by unfold Aside; rw [hx]; exact ht
          have hki : (k : Int) < (n2 : Int) := by omega
          clear hx hN ht J2
          go_wp2_with fail
          refine HN.out.mono ?_
          rintro e w3 ⟨rfl, hb3⟩
          cases t with
          | true =>
            go_wp2
            go_roundg (gk - 1)
            case measure => omega
            case rel => exact ⟨k + 1, by omega, by go_num, dbelow2 hbel hb3, fun j hj => by
              by_cases e : j = k
              · subst e; exact HT.out
              · exact A.out j (by omega)⟩
          | false =>
            go_wp2
            go_ret
            exact ⟨ret_int (by rw [E1.out, if_pos (M.named_no (by rw [HHl.out]; exact hlt) HT.out)]), hbw.trans (hb3.mono hbw.size)⟩
        · obtain rfl : k = n2 := by omega
          have E2 : Aside (M.rchk C H = if M.inside C.length H = false then 1 else if M.rise H = false then 1 else 0) := by
            unfold Aside
            rw [E1.out, if_neg (by rw [M.named_at (fun j hj => A.out j (by rw [← HHl.out]; exact hj))]; simp)]
          have hkk : decide ((k : Int) < (k : Int)) = false := by simp
          obtain ⟨w4, hw4⟩ : ∃ w4, w4 = wr := ⟨_, rfl⟩
          rw [← hw4] at hbw J2 e1 ⊢
          have HJ4 : Aside (InBox w4 p a n cap C a2 k cap2 H) := J2
          clear A E1 hw4 hbel J2
          go_wp2
          go_loopg [5] k (fun g i ws => ∃ (j : Nat), j + g = k ∧ i = .int .i64 j ∧ Below w4.heap.size w4 ws ∧ Aside (M.fineTo C.length H j))
          case atStart => exact ⟨0, by omega, rfl, Below.refl _ _, fun j hj => by omega⟩
          case round =>
            obtain ⟨j, hj, rfl, hbel, A⟩ := hrel
            have J5 := HJ4.out.below hbel
            have f0 := J5.c0
            have f1 := J5.c1
            have hbs : Below w.heap.size w wr := hbw.trans (hbel.mono hbw.size)
            by_cases hjl : j < k
            · obtain ⟨x, hx⟩ : ∃ x, H.getD j M.hd0 = x := ⟨_, rfl⟩
              obtain ⟨b, off, rfl, hcc⟩ : ∃ b off, a2 = some ⟨b, off, none⟩ ∧ ∀ i, i < k → wr.cell? ⟨b, off + i * 2, none⟩ = some (.string (H.getD i M.hd0).1) ∧ wr.cell? ⟨b, off + i * 2 + 1, none⟩ = some (.int .i64 (H.getD i M.hd0).2) := by
                rcases J5.hs.cases with ⟨h0, _⟩ | ⟨b, off, ea, _, _, hB, hc⟩
                · omega
                · exact ⟨b, off, ea, fun i hi => ⟨(hc i hi).1, (hc i hi).2.1⟩⟩
              have c3 := (hcc j hjl).1
              have c4 := (hcc j hjl).2
              rw [hx] at c3 c4
              have HX : Aside (H.getD j M.hd0 = x) := hx
              have hji : (j : Int) < (k : Int) := by omega
              have hn1 : IntKind.i64.wrap ((n : Int) - 1) = (n : Int) - 1 := by rw [IntKind.wrap_i64]; omega
              by_cases hin : 0 ≤ x.2 ∧ x.2 < (n : Int)
              · have HW1 : Hid (∀ W, Calls Tryz.prog 64 #[.int .i64 x.2, .int .i64 0, .int .i64 ((n : Int) - 1)] W fun e w' => e = .returned (.bool true) ∧ w' = W) := fun W => within_yes x.2 0 ((n : Int) - 1) W hin.1 (by omega)
                have HIn : Aside (0 ≤ (H.getD j M.hd0).2 ∧ (H.getD j M.hd0).2 < (C.length : Int)) := by unfold Aside; rw [hx, HCl.out]; exact hin
                cases j with
                | zero =>
                  clear hin hx hcc J5
                  go_wp2_with fail
                  go_quiet ((go_at_call 64; exact Calls.quiet_of_same (HW1.out _)))
                  go_wp2
                  go_roundg (gk - 1)
                  case measure => omega
                  case rel => exact ⟨0 + 1, by omega, by go_num, below_drewN hbel _, M.fineTo_next A.out (fun i hi => by omega) HIn.out⟩
                | succ j =>
                  obtain ⟨y, hy⟩ : ∃ y, H.getD j M.hd0 = y := ⟨_, rfl⟩
                  have c5 := (hcc j (by omega)).1
                  rw [hy] at c5
                  obtain ⟨t, ht⟩ : ∃ t, M.less y.1 x.1 = t := ⟨_, rfl⟩
                  have hlt' : Op.bytesLess y.1.toList x.1.toList = t := ht
                  have HT : Aside (M.less (H.getD j M.hd0).1 (H.getD (j + 1) M.hd0).1 = t) := by unfold Aside; rw [hy, hx]; exact ht
                  have hjw : IntKind.i64.wrap (((j + 1 : Nat) : Int) - 1) = (j : Int) := by rw [IntKind.wrap_i64]; omega
                  have hjk : (j : Int) < (k : Int) := by omega
                  have hj0 : decide ((0 : Int) < ((j + 1 : Nat) : Int)) = true := decide_eq_true (by omega)
                  clear hin hx hcc J5 hy ht
                  cases t with
                  | true =>
                    go_wp2_with fail
                    go_quiet ((go_at_call 64; exact Calls.quiet_of_same (HW1.out _)))
                    go_wp2
                    go_roundg (gk - 1)
                    case measure => omega
                    case rel => exact ⟨j + 1 + 1, by omega, by go_num, below_drewN hbel _, M.fineTo_next A.out (fun i hi => by cases Nat.succ.inj hi; exact HT.out) HIn.out⟩
                  | false =>
                    go_wp2_with fail
                    go_quiet ((go_at_call 64; exact Calls.quiet_of_same (HW1.out _)))
                    go_wp2
                    go_ret
                    have hbad := M.fineTo_bad (n := C.length) (H := H) (k := j + 1) (by rw [HHl.out]; exact hjl) (Or.inl ⟨j, rfl, HT.out⟩)
                    exact ⟨ret_int (by rw [E2.out]; rcases hbad with h | h <;> simp [h]), below_drewN hbs _⟩
              · have HW1 : Hid (∀ W, Calls Tryz.prog 64 #[.int .i64 x.2, .int .i64 0, .int .i64 ((n : Int) - 1)] W fun e w' => e = .returned (.bool false) ∧ w' = W) := fun W => within_no x.2 0 ((n : Int) - 1) W (by omega)
                have hbad := M.fineTo_bad (n := C.length) (H := H) (k := j) (by rw [HHl.out]; exact hjl) (Or.inr (by rw [hx, HCl.out]; omega))
                have E3 : Aside (M.rchk C H = 1) := by unfold Aside; rw [E2.out]; rcases hbad with h | h <;> simp [h]
                clear hbad
                cases j with
                | zero =>
                  clear hin hx hcc J5
                  go_wp2_with fail
                  go_quiet ((go_at_call 64; exact Calls.quiet_of_same (HW1.out _)))
                  go_wp2
                  go_ret
                  exact ⟨ret_int E3.out.symm, below_drewN hbs _⟩
                | succ j =>
                  obtain ⟨y, hy⟩ : ∃ y, H.getD j M.hd0 = y := ⟨_, rfl⟩
                  have c5 := (hcc j (by omega)).1
                  rw [hy] at c5
                  obtain ⟨t, ht⟩ : ∃ t, Op.bytesLess y.1.toList x.1.toList = t := ⟨_, rfl⟩
                  have hjw : IntKind.i64.wrap (((j + 1 : Nat) : Int) - 1) = (j : Int) := by rw [IntKind.wrap_i64]; omega
                  have hjk : (j : Int) < (k : Int) := by omega
                  have hj0 : decide ((0 : Int) < ((j + 1 : Nat) : Int)) = true := decide_eq_true (by omega)
                  clear hin hx hcc J5 hy
                  cases t with
                  | true =>
                    go_wp2_with fail
                    go_quiet ((go_at_call 64; exact Calls.quiet_of_same (HW1.out _)))
                    go_wp2
                    go_ret
                    exact ⟨ret_int E3.out.symm, below_drewN hbs _⟩
                  | false =>
                    go_wp2_with fail
                    go_quiet ((go_at_call 64; exact Calls.quiet_of_same (HW1.out _)))
                    go_wp2
                    go_ret
                    exact ⟨ret_int E3.out.symm, below_drewN hbs _⟩
            · obtain rfl : j = k := by omega
              have hkk2 : decide ((j : Int) < (j : Int)) = false := by simp
              have hA := A.out
              rw [← HHl.out] at hA
              have E3 : Aside (M.rchk C H = 0) := by unfold Aside; rw [E2.out, (M.fineTo_end hA).1, (M.fineTo_end hA).2]; rfl
              clear hA A J5
              go_wp2
              go_ret
              exact ⟨ret_int E3.out.symm, hbs⟩
  · have hne : (c != 0) = true := by simp [hz]
    have E : Aside (M.rchk C H = c) := by unfold Aside M.rchk; rw [if_pos (by rw [← HCc.out]; exact hz)]; exact HCc.out.symm
    clear hz
    go_wp2
    go_ret
    exact ⟨ret_int E.out.symm, hbw1⟩
end Go.Proofs.YtcgpgflnihjpiaeGreat

/- The reference's headAt, HeadOf. -/
namespace Go.Proofs.YtcgpgflnihjpiaeGreat
open Go.RowKit

set_option maxHeartbeats 4000000 in
theorem headAt_any (a : Option Addr) (n cap : Nat) (C : List M.Com) (a2 : Option Addr) (n2 cap2 : Nat) (H : List M.Hd) (s : ByteArray) (w : World) (hC : Cm w a n C) (hH : Hs w a2 n2 H) (hn2 : n2 ≤ 9223372036854775807) :
    Calls Tryz.prog 30 #[.agg #[.slice a n cap, .slice a2 n2 cap2], .string s] w fun e w' => e = .returned (.int .i64 (M.plc H s)) ∧ Below w.heap.size w w' := by
  obtain ⟨p, hp⟩ : ∃ p, p = w.heap.size := ⟨_, rfl⟩
  have I0 := InBox.new w a n cap C a2 n2 cap2 H hC hH
  obtain ⟨W, hW⟩ : ∃ W, W = w.alloc (.cells #[.slice a n cap, .slice a2 n2 cap2] 25) := ⟨_, rfl⟩
  have hb : Below w.heap.size w W := by rw [hW]; exact (Below.refl _ _).alloc (Nat.le_refl _) _
  rw [← hW, ← hp] at I0
  have q1 := I0.c1
  have HHs : Aside (Hs W a2 n2 H) := I0.hs
  have HW : Hid (W = w.alloc (.cells #[.slice a n cap, .slice a2 n2 cap2] 25)) := hW
  have HP : Aside (p = w.heap.size) := hp
  have HHl : Aside (H.length = n2) := hH.1
  clear hW hp I0 hC hH
  go_enter Tryz.func30, Tryz.ntmps30
  go_wp2
  rw [← HW.out, ← HP.out]
  go_loopg [5] n2 (fun g i wr => ∃ (k : Nat), k + g = n2 ∧ i = .int .i64 k ∧ wr = W ∧ Aside (M.idxF (fun h => M.alike h.1 s) (H.drop k) k = M.plc H s))
  case atStart => exact ⟨0, by omega, rfl, rfl, rfl⟩
  case round =>
    obtain ⟨k, hk, rfl, rfl, A⟩ := hrel
    by_cases hlt : k < n2
    · obtain ⟨x, hx⟩ : ∃ x, H.getD k M.hd0 = x := ⟨_, rfl⟩
      obtain ⟨b, off, rfl, c3⟩ : ∃ b off, a2 = some ⟨b, off, none⟩ ∧ wr.cell? ⟨b, off + k * 2, none⟩ = some (.string x.1) := by
        rcases HHs.out.cases with ⟨h0, _⟩ | ⟨b, off, ea, _, _, hB, hc⟩
        · omega
        · exact ⟨b, off, ea, by rw [(hc k hlt).1, hx]⟩
      obtain ⟨t, ht⟩ : ∃ t, M.alike x.1 s = t := ⟨_, rfl⟩
      have ht' : (x.1.toList == s.toList) = t := ht
      have HT : Aside (M.alike (H.getD k M.hd0).1 s = t) := by unfold Aside; rw [hx]; exact ht
      have hki : (k : Int) < (n2 : Int) := by omega
      clear hx ht
      cases t with
      | true =>
        go_wp2
        go_ret
        exact ⟨ret_int (by rw [← A.out, M.idxF_yes (fun h => M.alike h.1 s) H k M.hd0 (by rw [HHl.out]; exact hlt) HT.out]), hb⟩
      | false =>
        go_wp2
        go_roundg (gk - 1)
        case measure => omega
        case rel => exact ⟨k + 1, by omega, by go_num, rfl, by unfold Aside; rw [← A.out, M.idxF_no (fun h => M.alike h.1 s) H k M.hd0 (by rw [HHl.out]; exact hlt) HT.out]⟩
    · go_wp2
      go_ret
      exact ⟨ret_int (by rw [← A.out, M.idxF_end (fun h => M.alike h.1 s) H k (by rw [HHl.out]; omega)]), hb⟩

set_option maxHeartbeats 4000000 in
theorem headOf_any (a : Option Addr) (n cap : Nat) (C : List M.Com) (a2 : Option Addr) (n2 cap2 : Nat) (H : List M.Hd) (s : ByteArray) (w : World) (hC : Cm w a n C) (hn : n ≤ 9223372036854775807) (hH : Hs w a2 n2 H) (hn2 : n2 ≤ 9223372036854775807) :
    Calls Tryz.prog 26 #[.agg #[.slice a n cap, .slice a2 n2 cap2], .string s] w fun e w' => e = .returned (.tuple #[.int .i64 (M.hat C H s), .int .i64 (M.hchk C H s)]) ∧ Below w.heap.size w w' := by
  obtain ⟨p, hp⟩ : ∃ p, p = w.heap.size := ⟨_, rfl⟩
  have I1 := InBox.new w a n cap C a2 n2 cap2 H hC hH
  obtain ⟨W, hW⟩ : ∃ W, W = w.alloc (.cells #[.slice a n cap, .slice a2 n2 cap2] 25) := ⟨_, rfl⟩
  have hb : Below w.heap.size w W := by rw [hW]; exact (Below.refl _ _).alloc (Nat.le_refl _) _
  rw [← hW, ← hp] at I1
  have q0 := I1.c0
  have q1 := I1.c1
  have HK := rerror_any a n cap C a2 n2 cap2 H W I1.cm hn I1.hs hn2
  obtain ⟨c, hc⟩ : ∃ c, c = M.rchk C H := ⟨_, rfl⟩
  rw [← hc] at HK
  have HCc : Aside (c = M.rchk C H) := hc
  have HKK : Hid (Calls Tryz.prog 62 #[.agg #[.slice a n cap, .slice a2 n2 cap2]] W fun e w' => e = .returned (.int .i64 c) ∧ Below W.heap.size W w') := HK
  have HI : Aside (InBox W p a n cap C a2 n2 cap2 H) := I1
  have HW : Hid (W = w.alloc (.cells #[.slice a n cap, .slice a2 n2 cap2] 25)) := hW
  have HP : Aside (p = w.heap.size) := hp
  have HHl : Aside (H.length = n2) := hH.1
  clear hW HK hc hp I1 hC hH
  go_enter Tryz.func26, Tryz.ntmps26
  go_wp2_with fail
  rw [← HW.out, ← HP.out]
  go_wp2_with fail
  refine HKK.out.mono ?_
  rintro e w1 ⟨rfl, hb1⟩
  have J1 := HI.out.below hb1
  have d0 := J1.c0
  have d1 := J1.c1
  have HJ : Aside (InBox w1 p a n cap C a2 n2 cap2 H) := J1
  clear J1 q0 q1
  by_cases hz : c = 0
  · have hne : (c != 0) = false := by simp [hz]
    have HZ : Aside (M.rchk C H = 0) := by unfold Aside; rw [← HCc.out]; exact hz
    clear hz
    have KK : Hid (Calls Tryz.prog 30 #[.agg #[.slice a n cap, .slice a2 n2 cap2], .string s] w1 fun e w' => e = .returned (.int .i64 (M.plc H s)) ∧ Below w1.heap.size w1 w') := headAt_any a n cap C a2 n2 cap2 H s w1 HJ.out.cm HJ.out.hs hn2
    have hpl := M.plc_lt H s
    obtain ⟨i, hi⟩ : ∃ i, M.plc H s = i := ⟨_, rfl⟩
    rw [hi] at KK hpl
    rw [HHl.out] at hpl
    have HIi : Aside (M.plc H s = i) := hi
    clear hi
    go_wp2_with fail
    refine KK.out.mono ?_
    rintro e w2 ⟨rfl, hb2⟩
    have b2 := dbelow2 hb1 hb2
    have J2 := HJ.out.below hb2
    have e0 := J2.c0
    have e1 := J2.c1
    clear d0 d1
    rcases hpl with rfl | ⟨h0, h1⟩
    · have E : Aside (M.hchk C H s = 5) := by unfold Aside M.hchk; rw [if_neg (by rw [HZ.out]; simp), HIi.out, if_pos (by omega)]
      clear J2
      go_wp2
      go_ret2
      exact ⟨ret_pair (M.hat_zero (by rw [E.out]; simp)).symm E.out.symm, hb.trans (b2.mono hb.size)⟩
    · obtain ⟨k, rfl⟩ : ∃ k : Nat, i = (k : Int) := ⟨i.toNat, by omega⟩
      have hk : k < n2 := by omega
      have E : Aside (M.hchk C H s = 0) := by unfold Aside M.hchk; rw [if_neg (by rw [HZ.out]; simp), HIi.out, if_neg (by omega)]
      obtain ⟨x, hx⟩ : ∃ x, (H.getD k M.hd0).2 = x := ⟨_, rfl⟩
      have E2 : Aside (M.hat C H s = x) := by unfold Aside M.hat; rw [if_neg (by rw [E.out]; simp), HIi.out, ← hx]; rfl
      obtain ⟨hb3, ho, rfl, c3⟩ : ∃ b off, a2 = some ⟨b, off, none⟩ ∧ w2.cell? ⟨b, off + k * 2 + 1, none⟩ = some (.int .i64 x) := by
        rcases J2.hs.cases with ⟨h0, _⟩ | ⟨b, off, ea, _, _, hB, hc⟩
        · omega
        · exact ⟨b, off, ea, by rw [(hc k hk).2.1, hx]⟩
      have hlt0 : decide ((k : Int) < 0) = false := by simp
      clear J2 hx h0
      go_wp2
      go_ret2
      exact ⟨ret_pair E2.out.symm E.out.symm, hb.trans (b2.mono hb.size)⟩
  · have hne : (c != 0) = true := by simp [hz]
    have E : Aside (M.hchk C H s = c) := by unfold Aside M.hchk; rw [if_pos (by rw [← HCc.out]; exact hz)]; exact HCc.out.symm
    have HZ : Aside (c ≠ 0) := hz
    clear hz
    go_wp2
    go_ret2
    exact ⟨ret_pair (M.hat_zero (by rw [E.out]; exact HZ.out)).symm E.out.symm, hb.trans (hb1.mono hb.size)⟩
end Go.Proofs.YtcgpgflnihjpiaeGreat

/- Plain facts on what Put, Branch, Drop and Merge make. -/
namespace Go.Proofs.YtcgpgflnihjpiaeGreat.M
open Go.RowKit

theorem snoc_lt {α : Type} {L : List α} {c d : α} {i : Nat} (h : i < L.length) : (L ++ [c]).getD i d = L.getD i d := by
  simp [List.getD, List.getElem?_append_left h]
theorem snoc_eq {α : Type} {L : List α} {c d : α} : (L ++ [c]).getD L.length d = c := by simp [List.getD]

/-! ### Put -/
theorem put_parts {C : List Com} {H : List Hd} {s : ByteArray} {d : List Chg} (h : wpE C H s d = 0) :
    hchk C H s = 0 ∧ fine d = true ∧ d.length ≠ 0 ∧ C.length < 14 ∧ patchE (C.getD (hat C H s).toNat ([], [])).1 d = 0 ∧ wpC C H s d = C ++ [(patchV (C.getD (hat C H s).toNat ([], [])).1 d, [hat C H s])] ∧ wpH C H s d = setH H (plc H s).toNat C.length := by
  have e1 : wpC C H s d = C ++ [(patchV (C.getD (hat C H s).toNat ([], [])).1 d, [hat C H s])] := by unfold wpC; rw [if_pos h]
  have e2 : wpH C H s d = setH H (plc H s).toNat C.length := by unfold wpH; rw [if_pos h]; rfl
  unfold wpE at h
  split at h
  · rename_i h1; exact absurd h h1
  · rename_i h1
    split at h
    · omega
    · rename_i h2
      split at h
      · omega
      · rename_i h3
        split at h
        · omega
        · rename_i h4
          exact ⟨by simpa using h1, by simpa using h2, h3, by omega, h, e1, e2⟩
theorem put_right {C : List Com} {H : List Hd} {s : ByteArray} {d : List Chg} (h : wpE C H s d = 0) : rchk (wpC C H s d) (wpH C H s d) = 0 := by
  obtain ⟨h1, h2, h3, h4, h5, e1, e2⟩ := put_parts h
  obtain ⟨hr, hp⟩ := hchk_zero h1
  have hi := hat_in h1
  rw [e1, e2]
  have hd := dchk_snoc (c := (patchV (C.getD (hat C H s).toNat ([], [])).1 d, [hat C H s])) (rchk_zero hr).1 h4 (patchV_ok h5) (pr_one hi.1 hi.2)
  exact rchk_set hr hd (by simp) (by omega) (by simp; omega)
theorem put_heads {C : List Com} {H : List Hd} {s : ByteArray} {d : List Chg} (h : wpE C H s d = 0) :
    (hchk (wpC C H s d) (wpH C H s d) s = 0 ∧ hat (wpC C H s d) (wpH C H s d) s = C.length) ∧ ∀ t, t ≠ s → hchk (wpC C H s d) (wpH C H s d) t = hchk C H t ∧ hat (wpC C H s d) (wpH C H s d) t = hat C H t := by
  have hr := put_right h
  obtain ⟨h1, _, _, _, _, _, e2⟩ := put_parts h
  rw [e2] at hr ⊢
  exact moved h1 hr

/-! ### Merge -/
theorem join_parts {C : List Com} {H : List Hd} {s t : ByteArray} (h : joinE C H s t = 0) : hchk C H s = 0 ∧ hchk C H t = 0 ∧ (above C (hat C H s).toNat).getD (hat C H t).toNat false = false ∧
    (((above C (hat C H t).toNat).getD (hat C H s).toNat false = true ∧ joinC C H s t = C ∧ joinH C H s t = setH H (plc H s).toNat (hat C H t)) ∨
     ((above C (hat C H t).toNat).getD (hat C H s).toNat false = false ∧ C.length < 14 ∧ mergeE (baseR C (hat C H s).toNat (hat C H t).toNat) (C.getD (hat C H s).toNat ([], [])).1 (C.getD (hat C H t).toNat ([], [])).1 = 0 ∧
      joinC C H s t = C ++ [(mergeV (baseR C (hat C H s).toNat (hat C H t).toNat) (C.getD (hat C H s).toNat ([], [])).1 (C.getD (hat C H t).toNat ([], [])).1, [min (hat C H s) (hat C H t), max (hat C H s) (hat C H t)])] ∧ joinH C H s t = setH H (plc H s).toNat C.length)) := by
  have h0 := h
  unfold joinE at h
  split at h
  · rename_i h1; exact absurd h h1
  · rename_i h1
    obtain ⟨a1, a2⟩ := openE_two (Decidable.not_not.1 h1)
    refine ⟨a1, a2, ?_⟩
    have eC : joinC C H s t = if (above C (hat C H t).toNat).getD (hat C H s).toNat false = true then C else C ++ [(mergeV (baseR C (hat C H s).toNat (hat C H t).toNat) (C.getD (hat C H s).toNat ([], [])).1 (C.getD (hat C H t).toNat ([], [])).1, [min (hat C H s) (hat C H t), max (hat C H s) (hat C H t)])] := by
      unfold joinC; rw [if_neg (fun hn => hn h0)]
    have eH : joinH C H s t = if (above C (hat C H t).toNat).getD (hat C H s).toNat false = true then mv H s (hat C H t) else mv H s C.length := by
      unfold joinH; rw [if_neg (fun hn => hn h0)]
    rw [eC, eH]
    unfold joinAt at h
    split at h
    · omega
    · rename_i h2
      refine ⟨by simpa using h2, ?_⟩
      split at h
      · rename_i h3
        left
        rw [if_pos h3, if_pos h3]
        exact ⟨h3, rfl, rfl⟩
      · rename_i h3
        right
        split at h
        · omega
        · rename_i h4
          split at h
          · rename_i h5; exact absurd h h5
          · rename_i h5
            rw [if_neg h3, if_neg h3]
            exact ⟨by simpa using h3, by omega, Decidable.not_not.1 h5, rfl, rfl⟩
theorem join_ne {C : List Com} {H : List Hd} {s t : ByteArray} (h : joinE C H s t = 0) : (hat C H s).toNat ≠ (hat C H t).toNat ∧ s ≠ t := by
  obtain ⟨h1, h2, h3, _⟩ := join_parts h
  have hi := hat_in h1
  have R := (dchk_zero (rchk_zero (hchk_zero h1).1).1).2
  have key : (hat C H s).toNat ≠ (hat C H t).toNat := fun e => by
    rw [← e] at h3
    have := (above_iff R (n := (hat C H s).toNat) (by omega) (hat C H s).toNat).2 .self
    rw [h3] at this; simp at this
  exact ⟨key, fun e => key (by rw [e])⟩
theorem join_right {C : List Com} {H : List Hd} {s t : ByteArray} (h : joinE C H s t = 0) : rchk (joinC C H s t) (joinH C H s t) = 0 := by
  obtain ⟨h1, h2, h3, hor⟩ := join_parts h
  have hne := (join_ne h).1
  obtain ⟨hr, hp⟩ := hchk_zero h1
  have i1 := hat_in h1
  have i2 := hat_in h2
  rcases hor with ⟨_, e1, e2⟩ | ⟨_, h4, h5, e1, e2⟩
  · rw [e1, e2]
    exact rchk_set hr (rchk_zero hr).1 (Nat.le_refl _) i2.1 i2.2
  · rw [e1, e2]
    have hv : chk (mergeV (baseR C (hat C H s).toNat (hat C H t).toNat) (C.getD (hat C H s).toNat ([], [])).1 (C.getD (hat C H t).toNat ([], [])).1) = 0 := by
      unfold mergeV; rw [if_pos h5]; exact mrows_ok h5
    have hd := dchk_snoc (c := (_, [min (hat C H s) (hat C H t), max (hat C H s) (hat C H t)])) (rchk_zero hr).1 h4 hv (pr_two (by omega) (by omega) (by omega))
    exact rchk_set hr hd (by simp) (by omega) (by simp; omega)
theorem join_heads {C : List Com} {H : List Hd} {s t : ByteArray} (h : joinE C H s t = 0) : ∃ c : Nat, c < (joinC C H s t).length ∧ (hchk (joinC C H s t) (joinH C H s t) s = 0 ∧ hat (joinC C H s t) (joinH C H s t) s = c) ∧
    (∀ u, u ≠ s → hchk (joinC C H s t) (joinH C H s t) u = hchk C H u ∧ hat (joinC C H s t) (joinH C H s t) u = hat C H u) ∧ (above (joinC C H s t) c).getD (hat C H s).toNat false = true ∧ (above (joinC C H s t) c).getD (hat C H t).toNat false = true := by
  have hr' := join_right h
  obtain ⟨h1, h2, h3, hor⟩ := join_parts h
  have i1 := hat_in h1
  have i2 := hat_in h2
  have R := (dchk_zero (rchk_zero hr').1).2
  rcases hor with ⟨h4, e1, e2⟩ | ⟨_, h4, h5, e1, e2⟩
  · rw [e2] at hr' ⊢
    obtain ⟨m1, m2⟩ := moved h1 hr'
    refine ⟨(hat C H t).toNat, by rw [e1]; omega, ⟨m1.1, by rw [m1.2]; omega⟩, m2, by rw [e1]; exact h4, ?_⟩
    rw [e1] at R ⊢
    exact (above_iff R (by omega) _).2 .self
  · rw [e2] at hr' ⊢
    obtain ⟨m1, m2⟩ := moved h1 hr'
    have par : ((joinC C H s t).getD C.length ([], [])).2 = [min (hat C H s) (hat C H t), max (hat C H s) (hat C H t)] := by rw [e1, snoc_eq]
    have hl : C.length < (joinC C H s t).length := by rw [e1]; simp
    refine ⟨C.length, hl, m1, m2, ?_, ?_⟩
    · refine (above_iff R hl _).2 (.up (p := hat C H s) .self ?_ rfl)
      rw [par]
      have : hat C H s = min (hat C H s) (hat C H t) ∨ hat C H s = max (hat C H s) (hat C H t) := by omega
      rcases this with e | e
      · exact List.mem_cons.2 (Or.inl e)
      · exact List.mem_cons.2 (Or.inr (List.mem_singleton.2 e))
    · refine (above_iff R hl _).2 (.up (p := hat C H t) .self ?_ rfl)
      rw [par]
      have : hat C H t = min (hat C H s) (hat C H t) ∨ hat C H t = max (hat C H s) (hat C H t) := by omega
      rcases this with e | e
      · exact List.mem_cons.2 (Or.inl e)
      · exact List.mem_cons.2 (Or.inr (List.mem_singleton.2 e))
/-- Merged again, nothing would change. -/
theorem join_again {C : List Com} {H : List Hd} {s t : ByteArray} (h : joinE C H s t = 0) : joinE (joinC C H s t) (joinH C H s t) s t = 9 := by
  obtain ⟨c, _, ⟨k1, k2⟩, k3, _, k5⟩ := join_heads h
  obtain ⟨h1, h2, _⟩ := join_parts h
  obtain ⟨l1, l2⟩ := k3 t (Ne.symm (join_ne h).2)
  unfold joinE
  have e0 : openE (joinC C H s t) (joinH C H s t) [s, t] = 0 := by simp [openE, k1, l1, h2]
  rw [if_neg (by rw [e0]; simp)]
  unfold joinAt
  rw [k2, l2, Int.toNat_natCast, if_pos k5]

/-! ### Branch, Drop -/
theorem br_parts {C : List Com} {H : List Hd} {s t : ByteArray} (h : brE C H s t = 0) : hchk C H t = 0 ∧ nam s = true ∧ plc H s < 0 ∧ H.length < 4 ∧ brC C H s t = C ∧ brH C H s t = insH (s, hat C H t) H := by
  have e1 : brC C H s t = C := by unfold brC; rw [if_pos h]
  have e2 : brH C H s t = insH (s, hat C H t) H := by unfold brH; rw [if_pos h]
  unfold brE at h
  split at h
  · rename_i h1; exact absurd h h1
  · rename_i h1
    split at h
    · omega
    · rename_i h2
      split at h
      · omega
      · rename_i h3
        split at h
        · omega
        · exact ⟨by simpa using h1, by simpa using h2, by omega, by omega, e1, e2⟩
theorem plc_none {H : List Hd} {s : ByteArray} (h : plc H s < 0) : ∀ y ∈ H, y.1 ≠ s := by
  intro y hy e
  have : 0 ≤ plc H s := (idxF_neg _ H 0).2 (List.any_eq_true.2 ⟨y, hy, (alike_iff _ _).2 e⟩)
  omega
theorem br_right {C : List Com} {H : List Hd} {s t : ByteArray} (h : brE C H s t = 0) : rchk (brC C H s t) (brH C H s t) = 0 := by
  obtain ⟨h1, h2, h3, h4, e1, e2⟩ := br_parts h
  obtain ⟨hr, _⟩ := hchk_zero h1
  obtain ⟨a1, a2, a3, a4, a5⟩ := rchk_zero hr
  have hi := hat_in h1
  rw [e1, e2]
  refine rchk_of a1 (by rw [insH_len]; omega) (named_mem.2 fun y hy => ?_) (inside_mem.2 fun y hy => ?_) (rise_of (insH_rise (rise_all a5) (plc_none h3)))
  · rcases (insH_mem _ _ _).1 hy with rfl | hy
    · exact h2
    · exact named_mem.1 a3 y hy
  · rcases (insH_mem _ _ _).1 hy with rfl | hy
    · exact hi
    · exact inside_mem.1 a4 y hy
theorem br_heads {C : List Com} {H : List Hd} {s t : ByteArray} (h : brE C H s t = 0) : ∀ u, u ≠ s → hchk (brC C H s t) (brH C H s t) u = hchk C H u ∧ hat (brC C H s t) (brH C H s t) u = hat C H u := by
  have hr' := br_right h
  obtain ⟨h1, h2, h3, h4, e1, e2⟩ := br_parts h
  obtain ⟨hr, _⟩ := hchk_zero h1
  rw [e2] at hr' ⊢
  intro u hu
  refine hd_same hr' hr fun y => ?_
  rw [insH_mem]
  simp [hu]
theorem drop_parts {C : List Com} {H : List Hd} {s : ByteArray} (h : dropE C H s = 0) : hchk C H s = 0 ∧ dropC C H s = C ∧ dropH C H s = H.eraseIdx (plc H s).toNat := by
  have e1 : dropC C H s = C := by unfold dropC; rw [if_pos h]
  have e2 : dropH C H s = H.eraseIdx (plc H s).toNat := by unfold dropH; rw [if_pos h]
  unfold dropE at h
  split at h
  · rename_i h1; exact absurd h h1
  · rename_i h1; exact ⟨by simpa using h1, e1, e2⟩
theorem drop_right {C : List Com} {H : List Hd} {s : ByteArray} (h : dropE C H s = 0) : rchk (dropC C H s) (dropH C H s) = 0 := by
  obtain ⟨h1, e1, e2⟩ := drop_parts h
  obtain ⟨hr, _⟩ := hchk_zero h1
  obtain ⟨a1, a2, a3, a4, a5⟩ := rchk_zero hr
  have sub := List.eraseIdx_sublist H (plc H s).toNat
  rw [e1, e2]
  exact rchk_of a1 (Nat.le_trans sub.length_le a2) (named_mem.2 fun y hy => named_mem.1 a3 y (sub.subset hy)) (inside_mem.2 fun y hy => inside_mem.1 a4 y (sub.subset hy)) (rise_of ((rise_all a5).sublist sub))
theorem drop_heads {C : List Com} {H : List Hd} {s : ByteArray} (h : dropE C H s = 0) : ∀ u, u ≠ s → hchk (dropC C H s) (dropH C H s) u = hchk C H u ∧ hat (dropC C H s) (dropH C H s) u = hat C H u := by
  have hr' := drop_right h
  obtain ⟨h1, e1, e2⟩ := drop_parts h
  obtain ⟨hr, hp⟩ := hchk_zero h1
  have hl := plc_lt H s
  have hk : (plc H s).toNat < H.length := by omega
  have ha := idxF_at (fun h : Hd => alike h.1 s) H 0 hd0 hp
  rw [Nat.sub_zero] at ha
  have es : (H.getD (plc H s).toNat hd0).1 = s := (alike_iff _ _).1 ha
  rw [show H.getD (plc H s).toNat hd0 = H[(plc H s).toNat] by simp [List.getD, hk]] at es
  have sub := List.eraseIdx_sublist H (plc H s).toNat
  rw [e2] at hr' ⊢
  intro u hu
  refine hd_same hr' hr fun y => ⟨fun hm => sub.subset hm, fun hm => ?_⟩
  rw [List.mem_eraseIdx_iff_getElem]
  obtain ⟨i, hi, e⟩ := List.getElem_of_mem hm
  refine ⟨i, hi, fun hki => ?_, e⟩
  subst hki
  rw [e] at es
  exact hu es
end Go.Proofs.YtcgpgflnihjpiaeGreat.M

/- The reference's DropOf. -/
namespace Go.Proofs.YtcgpgflnihjpiaeGreat
open Go.RowKit Go.Shelf Go.Maps

theorem Hs.take {w : World} {a : Option Addr} {n : Nat} {H : List M.Hd} (h : Hs w a n H) (k : Nat) (hk : k ≤ n) : Hs w a k (H.take k) := by
  obtain ⟨h1, h2⟩ := h
  refine ⟨by rw [List.length_take]; omega, ?_⟩
  rcases h2 with h2 | ⟨b, off, ha, hlt, hc⟩
  · exact Or.inl (by omega)
  · refine Or.inr ⟨b, off, ha, hlt, fun i hi => ?_⟩
    have e : (H.take k).getD i M.hd0 = H.getD i M.hd0 := by simp [List.getD, hi]
    rw [e]; exact hc i (by omega)
theorem Hs.drop {w : World} {b off n : Nat} {H : List M.Hd} (h : Hs w (some ⟨b, off, none⟩) n H) (k : Nat) : Hs w (some ⟨b, off + k * 2, none⟩) (n - k) (H.drop k) := by
  obtain ⟨h1, h2⟩ := h
  refine ⟨by rw [List.length_drop]; omega, ?_⟩
  rcases h2 with h2 | ⟨b', off', ha, hlt, hc⟩
  · exact Or.inl (by omega)
  · cases ha
    refine Or.inr ⟨b, off + k * 2, rfl, hlt, fun i hi => ?_⟩
    have e : (H.drop k).getD i M.hd0 = H.getD (k + i) M.hd0 := by simp [List.getD]
    rw [e, show off + k * 2 + i * 2 = off + (k + i) * 2 by omega]; exact hc (k + i) (by omega)
/-- A repo of the call's own in the box D, whose heads are set anew. -/
theorem boxed_heads {w : World} {B D : Nat} {x y y' : Value} {C : List M.Com} {H' : List M.Hd} (h1 : w.heap[D]? = some (.cells #[x, y] 25 (0, 0))) (h3 : OwnK w B x C) (h4 : OwnH w B y' H') :
    (w.setCell ⟨D, 1, none⟩ y').heap[D]? = some (.cells #[x, y'] 25 (0, 0)) ∧ OwnK (w.setCell ⟨D, 1, none⟩ y') B x C ∧ OwnH (w.setCell ⟨D, 1, none⟩ y') B y' H' := by
  have gg := grownBy_set w ⟨D, 1, none⟩ y'
  refine ⟨?_, h3.elsewhere gg h1 (by decide) (by decide) (by decide), h4.elsewhere gg h1 (by decide)⟩
  rw [heap_setCell_same _ _ _ _ _ _ h1]; rfl

set_option maxRecDepth 100000 in
set_option maxHeartbeats 16000000 in
theorem dropOf_any (a : Option Addr) (n cap : Nat) (C : List M.Com) (a2 : Option Addr) (n2 cap2 : Nat) (H : List M.Hd) (s : ByteArray) (w : World) (hV : RepoV w a n cap C a2 n2 cap2 H) (hc2 : n2 ≤ cap2) (hcm : cap2 ≤ maxLen) :
    Calls Tryz.prog 13 #[.agg #[.slice a n cap, .slice a2 n2 cap2], .string s] w fun e w' => ∃ v, e = .returned (.tuple #[v, .int .i64 (M.dropE C H s)]) ∧ RepoOwn w' w.heap.size v (M.dropC C H s) (M.dropH C H s) ∧ Below w.heap.size w w' := by
  obtain ⟨p, hp⟩ : ∃ p, p = w.heap.size := ⟨_, rfl⟩
  obtain ⟨R, hR⟩ : ∃ R, R = p + 1 := ⟨_, rfl⟩
  have I0 := InBox.new w a n cap C a2 n2 cap2 H hV.cm hV.hs
  obtain ⟨W, hW⟩ : ∃ W, W = (w.alloc (.cells #[.slice a n cap, .slice a2 n2 cap2] 25)).alloc (.cells #[.slice none 0 0, .slice none 0 0] 25) := ⟨_, rfl⟩
  have hb0 : Below (w.alloc (.cells #[.slice a n cap, .slice a2 n2 cap2] 25)).heap.size (w.alloc (.cells #[.slice a n cap, .slice a2 n2 cap2] 25)) W := by rw [hW]; exact (Below.refl _ _).alloc (Nat.le_refl _) _
  have I1 := I0.below hb0
  rw [← hp] at I1
  have hb : Below w.heap.size w W := by rw [hW]; exact ((Below.refl _ _).alloc (Nat.le_refl _) _).alloc (by simp) _
  have hsz : W.heap.size = R + 1 := by rw [hW, hR, hp]; simp
  have q2 : W.heap[R]? = some (.cells #[.slice none 0 0, .slice none 0 0] 25 (0, 0)) := by
    rw [hW, show R = (w.alloc (.cells #[.slice a n cap, .slice a2 n2 cap2] 25)).heap.size by rw [hR, hp]; simp]
    exact heap_alloc_new _ _
  have HI : Hid (InBox W p a n cap C a2 n2 cap2 H) := I1
  have HVW : Hid (RepoV W a n cap C a2 n2 cap2 H) := hV.later hb
  have c0 := I1.c0
  have c1 := I1.c1
  obtain ⟨z, hz⟩ : ∃ z, z = M.hchk C H s := ⟨_, rfl⟩
  obtain ⟨x, hx⟩ : ∃ x, x = M.hat C H s := ⟨_, rfl⟩
  have K0 := headOf_any a n cap C a2 n2 cap2 H s W I1.cm hV.nm I1.hs hV.hm
  rw [← hz, ← hx] at K0
  have KH : Hid (Calls Tryz.prog 26 #[.agg #[.slice a n cap, .slice a2 n2 cap2], .string s] W fun e w' => e = .returned (.tuple #[.int .i64 x, .int .i64 z]) ∧ Below W.heap.size W w') := K0
  have HZ : Aside (z = M.hchk C H s) := hz
  have HQ2 : Hid (W.heap[R]? = some (.cells #[.slice none 0 0, .slice none 0 0] 25 (0, 0))) := q2
  have HW : Hid (W = (w.alloc (.cells #[.slice a n cap, .slice a2 n2 cap2] 25)).alloc (.cells #[.slice none 0 0, .slice none 0 0] 25)) := hW
  have HP : Aside (p = w.heap.size) := hp
  have HR : Aside (R = p + 1) := hR
  have HPR : Aside (w.heap.size ≤ p) := by unfold Aside; omega
  have HSz : Aside (W.heap.size = R + 1) := hsz
  have hpR : p < R := by omega
  have HNH : Aside (H.length = n2) := hV.hs.1
  have HCm : Hid (cap2 ≤ maxLen) := hcm
  clear hW hp hR hV hb0 I0 I1 K0 hz hx q2 hsz hcm
  go_enter Tryz.func13, Tryz.ntmps13
  go_wp2_with fail
  rw [← HW.out, ← HP.out, ← HR.out]
  go_wp2_with fail
  refine KH.out.mono ?_
  rintro e w1 ⟨rfl, b1⟩
  have hb1 : Below w.heap.size w w1 := hb.trans (b1.mono hb.size)
  have hRl : R < w1.heap.size := by have := HSz.out; have := b1.size; omega
  have r1 : w1.heap[R]? = some (.cells #[.slice none 0 0, .slice none 0 0] 25 (0, 0)) := (b1.block R (by have := HSz.out; omega)).trans HQ2.out
  have J1 := HI.out.below b1
  have d0 := J1.c0
  have d1 := J1.c1
  by_cases hz0 : z = 0
  · subst hz0
    have HZ0 : Hid (M.hchk C H s = 0) := HZ.out.symm
    have hr0 := (M.hchk_zero HZ0.out).1
    by_cases h1 : n2 = 1
    · have E : Aside (M.dropE C H s = 1) := by unfold Aside M.dropE; rw [if_neg (fun h => h HZ0.out), if_pos (by rw [HNH.out]; exact h1)]
      have EC : Aside (M.dropC C H s = [] ∧ M.dropH C H s = []) := ⟨by unfold M.dropC; rw [if_neg (by rw [E.out]; decide)], by unfold M.dropH; rw [if_neg (by rw [E.out]; decide)]⟩
      have hmb : ((n2 : Int) == 1) = true := by simp [h1]
      clear h1 J1 c0 c1 KH
      obtain ⟨g1, g2, g3⟩ := res_set r1 (.slice none 0 0) (.slice none 0 0)
      obtain ⟨X, hX⟩ : ∃ X, X = (w1.setCell ⟨R, 0, none⟩ (.slice none 0 0)).setCell ⟨R, 1, none⟩ (.slice none 0 0) := ⟨_, rfl⟩
      rw [← hX] at g1
      have bX : Below w.heap.size w X := by rw [hX]; exact (hb1.setCell (p := ⟨R, 0, none⟩) (by show _ ≤ R; have := HPR.out; omega) _).setCell (p := ⟨R, 1, none⟩) (by show _ ≤ R; have := HPR.out; omega) _
      have gX := g1
      have HX9 : Hid (X = (w1.setCell ⟨R, 0, none⟩ (.slice none 0 0)).setCell ⟨R, 1, none⟩ (.slice none 0 0)) := hX
      have HX0 : Aside (X.cell? ⟨R, 0, none⟩ = some (.slice none 0 0)) := by unfold Aside; rw [cell_of_row _ _ _ _ _ _ gX]; rfl
      have HX1 : Aside (X.cell? ⟨R, 1, none⟩ = some (.slice none 0 0)) := by unfold Aside; rw [cell_of_row _ _ _ _ _ _ gX]; rfl
      have x0 : w1.cell? ⟨R, 0, none⟩ = some (.slice none 0 0) := by rw [cell_of_row _ _ _ _ _ _ r1]; rfl
      have x1 : w1.cell? ⟨R, 1, none⟩ = some (.slice none 0 0) := by rw [cell_of_row _ _ _ _ _ _ r1]; rfl
      have f0 : w1.frozen? ⟨R, 0, none⟩ = false := frozen_of_row _ _ _ _ _ r1
      have f1 : w1.frozen? ⟨R, 1, none⟩ = false := frozen_of_row _ _ _ _ _ r1
      clear g1 g2 g3 hX gX r1
      go_wp2
      rw [← HX9.out]
      have y0 := HX0.out
      have y1 := HX1.out
      refine bodyPost_ret (v := .tuple #[.agg #[.slice none 0 0, .slice none 0 0], .int .i64 1]) (by simp [results, Tryz.results13, go_sem, y0, y1]) rfl ?_
      refine ⟨_, ret_two' E.out.symm, ?_, bX⟩
      rw [EC.out.1, EC.out.2]; exact RepoOwn.none _ _
    · have hmb : ((n2 : Int) == 1) = false := by simp; omega
      have E0 : Aside (M.dropE C H s = 0) := by unfold Aside M.dropE; rw [if_neg (fun h => h HZ0.out), if_neg (by rw [HNH.out]; exact h1)]
      have hlp : 0 ≤ M.plc H s := (M.hchk_zero HZ0.out).2
      have hll := M.plc_lt H s
      obtain ⟨kk, hkk⟩ : ∃ kk : Nat, M.plc H s = (kk : Int) := ⟨(M.plc H s).toNat, by omega⟩
      have hkl : kk < n2 := by rw [← HNH.out]; omega
      have EC : Aside (M.dropC C H s = C ∧ M.dropH C H s = H.take kk ++ H.drop (kk + 1)) := by
        refine ⟨by unfold M.dropC; rw [if_pos E0.out], ?_⟩
        unfold M.dropH
        rw [if_pos E0.out, hkk, Int.toNat_natCast, List.eraseIdx_eq_take_drop_succ]
      have KO : Hid (Calls Tryz.prog 44 #[.agg #[.slice a n cap, .slice a2 n2 cap2]] w1 fun e w' => ∃ v, e = .returned v ∧ RepoOwn w' w1.heap.size v C H ∧ Below w1.heap.size w1 w') := ownRepo_any a n cap C a2 n2 cap2 H w1 (HVW.out.later b1) hr0
      have hn4 : n2 ≤ 4 := by rw [← HNH.out]; exact (M.rchk_zero hr0).2.1
      clear h1 J1 c0 c1 KH
      go_wp2_with fail
      refine KO.out.mono ?_
      rintro e w2 ⟨v, rfl, ⟨xx, yy, rfl, ok, oh⟩, b2⟩
      obtain ⟨xa, xc, rfl, _⟩ := ok.cm
      obtain ⟨ya, yc, rfl, _⟩ := oh.hs
      obtain ⟨D, hD⟩ : ∃ D, D = w2.heap.size := ⟨_, rfl⟩
      obtain ⟨m, hm⟩ : ∃ m, m = C.length := ⟨_, rfl⟩
      rw [← hm, HNH.out]
      rw [← hm] at ok
      rw [HNH.out] at oh
      obtain ⟨W2, hW2⟩ : ∃ W2, W2 = w2.alloc (.cells #[.slice xa m xc, .slice ya n2 yc] 25) := ⟨_, rfl⟩
      have bW2 : Below w2.heap.size w2 W2 := by rw [hW2]; exact (Below.refl _ _).alloc (Nat.le_refl _) _
      have blk : W2.heap[D]? = some (.cells #[.slice xa m xc, .slice ya n2 yc] 25 (0, 0)) := by rw [hW2, hD]; exact heap_alloc_new _ _
      have q12 : Below w1.heap.size w1 W2 := b2.trans (bW2.mono b2.size)
      have bWW2 : Below W.heap.size W W2 := b1.trans (q12.mono b1.size)
      have HOK : Hid (OwnK W2 w1.heap.size (.slice xa m xc) C) := ok.later bW2
      have J2 := HI.out.below bWW2
      have e0 := J2.c0
      have e1 := J2.c1
      rw [hW2] at e0 e1
      have KA : Hid (Calls Tryz.prog 30 #[.agg #[.slice a n cap, .slice a2 n2 cap2], .string s] W2 fun e w' => e = .returned (.int .i64 (kk : Int)) ∧ Below W2.heap.size W2 w') := by
        have q := HVW.out.later bWW2
        have := headAt_any a n cap C a2 n2 cap2 H s W2 q.cm q.hs q.hm
        rw [hkk] at this
        exact this
      have HBlk : Hid (W2.heap[D]? = some (.cells #[.slice xa m xc, .slice ya n2 yc] 25 (0, 0))) := blk
      have HW2 : Hid (W2 = w2.alloc (.cells #[.slice xa m xc, .slice ya n2 yc] 25)) := hW2
      have HD : Aside (D = w2.heap.size) := hD
      have hD1 : w1.heap.size ≤ D := by rw [hD]; exact b2.size
      have r2 : W2.heap[R]? = some (.cells #[.slice none 0 0, .slice none 0 0] 25 (0, 0)) := (q12.block R hRl).trans r1
      clear hW2 hD ok oh blk hm d0 d1 b2 bW2 KO r1 hkk hll J2
      go_wp2_with fail
      rw [← HW2.out, ← HD.out]
      refine KA.out.mono ?_
      rintro e w3 ⟨rfl, b3⟩
      have q13 : Below w1.heap.size w1 w3 := q12.trans (b3.mono q12.size)
      have bW3 : Below W.heap.size W w3 := b1.trans (q13.mono b1.size)
      have blk3 : w3.heap[D]? = some (.cells #[.slice xa m xc, .slice ya n2 yc] 25 (0, 0)) := (b3.block D (Array.getElem?_eq_some_iff.1 HBlk.out).1).trans HBlk.out
      have hD3 : D < w3.heap.size := (Array.getElem?_eq_some_iff.1 blk3).1
      have r3 : w3.heap[R]? = some (.cells #[.slice none 0 0, .slice none 0 0] 25 (0, 0)) := (b3.block R (Array.getElem?_eq_some_iff.1 r2).1).trans r2
      have HK3 : Hid (OwnK w3 w1.heap.size (.slice xa m xc) C) := HOK.out.later b3
      have J3 := HI.out.below bW3
      have g1 := J3.c1
      obtain ⟨b, off, rfl, hB3⟩ : ∃ b off, a2 = some ⟨b, off, none⟩ ∧ b < w3.heap.size := by
        obtain ⟨_, h0 | ⟨b, off, e, hB, _⟩⟩ := J3.hs
        · omega
        · exact ⟨b, off, e, hB⟩
      have HHs : Hid (Hs w3 (some ⟨b, off, none⟩) n2 H) := J3.hs
      have hp3 : p < w3.heap.size := J3.lt
      have hk1 : (kk : Int) ≤ (cap2 : Int) := by omega
      have hk2 : (kk : Int) + 1 ≤ (n2 : Int) := by omega
      have hk3 : IntKind.i64.wrap ((kk : Int) + 1) = ((kk + 1 : Nat) : Int) := by rw [IntKind.wrap_i64]; omega
      have hk4 : 0 ≤ (kk : Int) + 1 := by omega
      have HH2 : Hid (Hs w3 (if cap2 = kk + 1 then some ⟨b, off, none⟩ else some ⟨b, off + (kk + 1) * 2, none⟩) (n2 - (kk + 1)) (H.drop (kk + 1))) := by
        unfold Hid
        split
        · exact ⟨by rw [List.length_drop, HNH.out], Or.inl (by omega)⟩
        · exact HHs.out.drop (kk + 1)
      have HH1 : Hid (Hs w3 (some ⟨b, off, none⟩) kk (H.take kk)) := HHs.out.take kk (by omega)
      have HNs : Hid ((if cap2 = kk + 1 then some (⟨b, off, none⟩ : Addr) else some ⟨b, off + (kk + 1) * 2, none⟩) = none → n2 - (kk + 1) = 0 ∧ cap2 - (kk + 1) = 0) := fun h => by split at h <;> simp at h
      have HSV : Hid (∀ V, Below w3.heap.size w3 V → V.cell? ⟨p, 1, none⟩ = some (.slice (some ⟨b, off, none⟩) n2 cap2)) := fun V hV => (hV.cell (p := ⟨p, 1, none⟩) hp3).trans g1
      have HBd : Hid (Below w3.heap.size w3 w3.drew) := (Below.refl _ _).drew
      have hW13 := q13.size
      clear e0 e1 KA b3 J3 r2 q12
      go_wp2_with fail
      refine wp_region_till 13 (fun V => V.cell? ⟨p, 1, none⟩ = some (.slice (some ⟨b, off, none⟩) n2 cap2)) (by kernel_rfl) (HSV.out _ HBd.out) (fun hHeld => ?_)
      refine till_go 1 (v := .pointer (some ⟨p, 1, none⟩)) rfl (by decide) (by kernel_rfl) (by kernel_rfl) (by kernel_rfl) (fun _ _ _ h => h) (Or.inl ⟨by rfl, fun V _ => (by go_simp)⟩) hHeld ?_
      try simp only [Act.put]
      refine till_take 2 (v := .slice (some ⟨b, off, none⟩) n2 cap2) rfl (by decide) (by kernel_rfl) (by kernel_rfl) (by kernel_rfl) (by kernel_rfl) (by kernel_rfl) (fun _ _ _ h => h) (Or.inl ⟨by rfl, fun V hV => (by have v0 := hV; go_simp)⟩) hHeld ?_
      try simp only [Act.put]
      refine till_go 3 (v := .int .i64 (kk : Int)) rfl (by decide) (by kernel_rfl) (by kernel_rfl) (by kernel_rfl) (fun _ _ _ h => h) (Or.inl ⟨by rfl, fun V _ => (by go_simp)⟩) hHeld ?_
      try simp only [Act.put]
      refine till_go 4 (v := .slice (some ⟨b, off, none⟩) kk cap2) rfl (by decide) (by kernel_rfl) (by kernel_rfl) (by kernel_rfl) (fun _ _ _ h => h) (Or.inl ⟨by rfl, fun V _ => (by go_simp)⟩) hHeld ?_
      try simp only [Act.put]
      refine till_go 6 (v := .pointer (some ⟨p, 1, none⟩)) rfl (by decide) (by kernel_rfl) (by kernel_rfl) (by kernel_rfl) (fun _ _ _ h => h) (Or.inl ⟨by rfl, fun V _ => (by go_simp)⟩) hHeld ?_
      try simp only [Act.put]
      refine till_take 7 (v := .slice (some ⟨b, off, none⟩) n2 cap2) rfl (by decide) (by kernel_rfl) (by kernel_rfl) (by kernel_rfl) (by kernel_rfl) (by kernel_rfl) (fun _ _ _ h => h) (Or.inl ⟨by rfl, fun V hV => (by have v0 := hV; go_simp)⟩) hHeld ?_
      try simp only [Act.put]
      refine till_go 8 (v := .int .i64 (kk : Int)) rfl (by decide) (by kernel_rfl) (by kernel_rfl) (by kernel_rfl) (fun _ _ _ h => h) (Or.inl ⟨by rfl, fun V _ => (by go_simp)⟩) hHeld ?_
      try simp only [Act.put]
      refine till_go 9 (v := .int .i64 ((kk + 1 : Nat) : Int)) rfl (by decide) (by kernel_rfl) (by kernel_rfl) (by kernel_rfl) (fun _ _ _ h => h) (Or.inl ⟨by rfl, fun V _ => (by go_simp)⟩) hHeld ?_
      try simp only [Act.put]
      refine till_go 10 (v := .slice (if cap2 = kk + 1 then some ⟨b, off, none⟩ else some ⟨b, off + (kk + 1) * 2, none⟩) (n2 - (kk + 1)) (cap2 - (kk + 1))) rfl (by decide) (by kernel_rfl) (by kernel_rfl) (by kernel_rfl) (fun _ _ _ h => h) (Or.inl ⟨by rfl, fun V _ => (by go_simp)⟩) hHeld ?_
      try simp only [Act.put]
      generalize (if cap2 = kk + 1 then some (⟨b, off, none⟩ : Addr) else some ⟨b, off + (kk + 1) * 2, none⟩) = sa at *
      refine till_step 0 rfl (by decide) (by kernel_rfl) (fun K hK => ?_)
      go_simp
      have pb1 : Below w3.heap.size w3 (w3.alloc (.cells #[] 66)).drew := ((Below.refl _ _).alloc (Nat.le_refl _) _).drew
      have oh1 : OwnH (w3.alloc (.cells #[] 66)).drew w3.heap.size (.slice (some ⟨w3.heap.size, 0, none⟩) 0 0) [] := ⟨ownsRow_later (own_empty w3 _ _ _ (Nat.le_refl _)) ((Below.refl _ _).drew), fun x hx => by simp at hx⟩
      refine hK.out _ _ (HSV.out _ pb1) (fun hHeld => ?_)
      clear hK K
      refine till_step 5 rfl (by decide) (by kernel_rfl) (fun K hK => ?_)
      refine step_heads rfl _ _ rfl w3.heap.size _ [] rfl oh1 (some ⟨b, off, none⟩) kk cap2 (H.take kk) rfl (HH1.out.below pb1 (Nat.le_refl _)) (fun h => by simp at h) (by simp; omega) pb1.size ?_
      intro v4 w4 o4 g4
      simp only [List.nil_append] at o4
      have pb4 : Below w3.heap.size w3 w4 := pb1.trans (below_grown g4 (fun k e => by have e2 := Option.some.inj e; simp at e2; omega) pb1.size)
      refine hK.out _ _ (HSV.out _ pb4) (fun hHeld => ?_)
      clear hK K
      refine till_step 11 rfl (by decide) (by kernel_rfl) (fun K hK => ?_)
      refine step_heads rfl _ _ rfl w3.heap.size _ (H.take kk) rfl o4 sa (n2 - (kk + 1)) (cap2 - (kk + 1)) (H.drop (kk + 1)) rfl (HH2.out.below pb4 (Nat.le_refl _)) HNs.out (by rw [List.length_take, HNH.out]; omega) pb4.size ?_
      intro v5 w5 o5 g5
      have pb5 : Below w3.heap.size w3 w5 := pb4.trans (below_grown g5 (fun k e => (World.ownsRow.lt o4.1 k e).1) pb4.size)
      obtain ⟨va, vc, rfl, _⟩ := o5.hs
      obtain ⟨vn, hvn⟩ : ∃ vn, vn = (H.take kk ++ H.drop (kk + 1)).length := ⟨_, rfl⟩
      rw [← hvn] at o5 ⊢
      have blk5 : w5.heap[D]? = some (.cells #[.slice xa m xc, .slice ya n2 yc] 25 (0, 0)) := (pb5.block D hD3).trans blk3
      have r5 : w5.heap[R]? = some (.cells #[.slice none 0 0, .slice none 0 0] 25 (0, 0)) := (pb5.block R (Array.getElem?_eq_some_iff.1 r3).1).trans r3
      obtain ⟨P1, P2, P3⟩ := boxed_heads (y' := .slice va vn vc) blk5 (HK3.out.later pb5) (o5.lower hW13)
      obtain ⟨W6, hW6⟩ : ∃ W6, W6 = w5.setCell ⟨D, 1, none⟩ (.slice va vn vc) := ⟨_, rfl⟩
      rw [← hW6] at P1 P2 P3
      have hRD : R ≠ D := by omega
      have r6 : W6.heap[R]? = some (.cells #[.slice none 0 0, .slice none 0 0] 25 (0, 0)) := by rw [hW6, heap_setCell_other _ _ _ _ (by exact hRD)]; exact r5
      have hb5 : Below w.heap.size w W6 := by rw [hW6]; exact ((hb1.trans (q13.mono hb1.size)).trans (pb5.mono (by have := hb1.size; omega))).setCell (p := ⟨D, 1, none⟩) (by show _ ≤ D; have := hb1.size; omega) _
      have HRO : Aside (RepoOwn ((W6.setCell ⟨R, 0, none⟩ (.slice xa m xc)).setCell ⟨R, 1, none⟩ (.slice va vn vc)) w.heap.size (.agg #[.slice xa m xc, .slice va vn vc]) (M.dropC C H s) (M.dropH C H s)) := by unfold Aside; rw [EC.out.1, EC.out.2]; exact (repoOwn_set r6 P2 P3).lower hb1.size
      obtain ⟨g1', g2', g3'⟩ := res_set r6 (.slice xa m xc) (.slice va vn vc)
      obtain ⟨X, hX⟩ : ∃ X, X = (W6.setCell ⟨R, 0, none⟩ (.slice xa m xc)).setCell ⟨R, 1, none⟩ (.slice va vn vc) := ⟨_, rfl⟩
      rw [← hX] at g1' HRO
      have bX : Below w.heap.size w X := by rw [hX]; exact (hb5.setCell (p := ⟨R, 0, none⟩) (by show _ ≤ R; have := HPR.out; omega) _).setCell (p := ⟨R, 1, none⟩) (by show _ ≤ R; have := HPR.out; omega) _
      have HX9 : Hid (X = (W6.setCell ⟨R, 0, none⟩ (.slice xa m xc)).setCell ⟨R, 1, none⟩ (.slice va vn vc)) := hX
      have HW6 : Hid (W6 = w5.setCell ⟨D, 1, none⟩ (.slice va vn vc)) := hW6
      have HX0 : Aside (X.cell? ⟨R, 0, none⟩ = some (.slice xa m xc)) := by unfold Aside; rw [cell_of_row _ _ _ _ _ _ g1']; rfl
      have HX1 : Aside (X.cell? ⟨R, 1, none⟩ = some (.slice va vn vc)) := by unfold Aside; rw [cell_of_row _ _ _ _ _ _ g1']; rfl
      have f5 : w5.frozen? ⟨D, 1, none⟩ = false := frozen_of_row _ _ _ _ _ blk5
      have k5 : w5.cell? ⟨D, 1, none⟩ = some (.slice ya n2 yc) := by rw [cell_of_row _ _ _ _ _ _ blk5]; rfl
      have e0' : W6.cell? ⟨D, 0, none⟩ = some (.slice xa m xc) := by rw [cell_of_row _ _ _ _ _ _ P1]; rfl
      have e1' : W6.cell? ⟨D, 1, none⟩ = some (.slice va vn vc) := by rw [cell_of_row _ _ _ _ _ _ P1]; rfl
      have x0' : W6.cell? ⟨R, 0, none⟩ = some (.slice none 0 0) := by rw [cell_of_row _ _ _ _ _ _ r6]; rfl
      have x1' : W6.cell? ⟨R, 1, none⟩ = some (.slice none 0 0) := by rw [cell_of_row _ _ _ _ _ _ r6]; rfl
      have f0' : W6.frozen? ⟨R, 0, none⟩ = false := frozen_of_row _ _ _ _ _ r6
      have f1' : W6.frozen? ⟨R, 1, none⟩ = false := frozen_of_row _ _ _ _ _ r6
      have HPB : Hid (Below w3.heap.size w3 w5) := pb5
      clear g1' g2' g3' hX hW6 P1 P2 P3 r6 r5 blk5 hvn pb1 pb4 pb5 g4 g5 o4 o5 oh1 r3 blk3
      refine hK.out _ _ (HSV.out _ HPB.out) (fun hHeld => ?_)
      clear hK K
      refine till_go 12 (v := .pointer (some ⟨D, 1, none⟩)) rfl (by decide) (by kernel_rfl) (by kernel_rfl) (by kernel_rfl) (fun _ _ _ h => h) (Or.inl ⟨by rfl, fun V _ => (by go_simp)⟩) hHeld ?_
      try simp only [Act.put]
      refine till_last rfl (by kernel_rfl) (by kernel_rfl) (fun K hK => ?_) _
      go_simp
      rw [← HW6.out]
      refine hK.out _ _ ?_
      clear hK K f5 k5
      go_wp2
      rw [← HX9.out]
      have y0 := HX0.out
      have y1 := HX1.out
      refine bodyPost_ret (v := .tuple #[.agg #[.slice xa m xc, .slice va vn vc], .int .i64 0]) (by simp [results, Tryz.results13, go_sem, y0, y1]) rfl ?_
      exact ⟨_, ret_two' E0.out.symm, HRO.out, bX⟩
  · have hzb : (z != 0) = true := by simp [hz0]
    have EE : Aside (M.dropE C H s = z) := by unfold Aside M.dropE; rw [← HZ.out, if_pos hz0]
    have EC : Aside (M.dropC C H s = [] ∧ M.dropH C H s = []) := ⟨by unfold M.dropC; rw [if_neg (by rw [EE.out]; exact hz0)], by unfold M.dropH; rw [if_neg (by rw [EE.out]; exact hz0)]⟩
    clear hz0 J1 d0 d1 c0 c1 KH
    obtain ⟨g1, g2, g3⟩ := res_set r1 (.slice none 0 0) (.slice none 0 0)
    obtain ⟨X, hX⟩ : ∃ X, X = (w1.setCell ⟨R, 0, none⟩ (.slice none 0 0)).setCell ⟨R, 1, none⟩ (.slice none 0 0) := ⟨_, rfl⟩
    rw [← hX] at g1
    have bX : Below w.heap.size w X := by rw [hX]; exact (hb1.setCell (p := ⟨R, 0, none⟩) (by show _ ≤ R; have := HPR.out; omega) _).setCell (p := ⟨R, 1, none⟩) (by show _ ≤ R; have := HPR.out; omega) _
    have gX := g1
    have HX9 : Hid (X = (w1.setCell ⟨R, 0, none⟩ (.slice none 0 0)).setCell ⟨R, 1, none⟩ (.slice none 0 0)) := hX
    have HX0 : Aside (X.cell? ⟨R, 0, none⟩ = some (.slice none 0 0)) := by unfold Aside; rw [cell_of_row _ _ _ _ _ _ gX]; rfl
    have HX1 : Aside (X.cell? ⟨R, 1, none⟩ = some (.slice none 0 0)) := by unfold Aside; rw [cell_of_row _ _ _ _ _ _ gX]; rfl
    have x0 : w1.cell? ⟨R, 0, none⟩ = some (.slice none 0 0) := by rw [cell_of_row _ _ _ _ _ _ r1]; rfl
    have x1 : w1.cell? ⟨R, 1, none⟩ = some (.slice none 0 0) := by rw [cell_of_row _ _ _ _ _ _ r1]; rfl
    have f0 : w1.frozen? ⟨R, 0, none⟩ = false := frozen_of_row _ _ _ _ _ r1
    have f1 : w1.frozen? ⟨R, 1, none⟩ = false := frozen_of_row _ _ _ _ _ r1
    clear g1 g2 g3 hX gX r1
    go_wp2
    rw [← HX9.out]
    have y0 := HX0.out
    have y1 := HX1.out
    refine bodyPost_ret (v := .tuple #[.agg #[.slice none 0 0, .slice none 0 0], .int .i64 z]) (by simp [results, Tryz.results13, go_sem, y0, y1]) rfl ?_
    refine ⟨_, ret_two' EE.out.symm, ?_, bX⟩
    rw [EC.out.1, EC.out.2]; exact RepoOwn.none _ _
end Go.Proofs.YtcgpgflnihjpiaeGreat
