/- DagR. -/
import Derived.Test.YtcgpgflnihjpiagGreatBRestRepos01
import Derived.Test.YtcgpgflnihjpiagGreatBRestRepos02
import Derived.Test.YtcgpgflnihjpiagGreatBRestRepos05
import Derived.Test.YtcgpgflnihjpiagGreatBRestRepos04
import Derived.Deep.RegionHeld3
import Derived.Test.YtcgpgflnihjpiagGreatBRestRepos03
import Derived.Test.YtcgpgflnihjpiagGreatBRestRepos10
import Derived.Test.YtcgpgflnihjpiagGreatBRestRepos09
namespace Go.Proofs.YtcgpgflnihjpiagGreat
namespace M
theorem pr_ref (c : Nat) (ps : List Int) : pr c ps = true ↔ ps.length ≤ 2 ∧ (ps.length = 2 → ps.getD 0 0 < ps.getD 1 0) ∧ ∀ p ∈ ps, 0 ≤ p ∧ p < (c : Int) := by
  match ps with
  | [] => simp [pr, ris]
  | [a] => simp [pr, ris]; omega
  | [a, b] => simp [pr, ris]; omega
  | a :: b :: d :: t => simp [pr]
end M
open Go.RowKit
theorem cerror_many (a : Option Addr) (n cap : Nat) (w : World) (h : 14 < n) (hm : n ≤ 9223372036854775807) :
    Calls Tryz.prog 43 #[.slice a n cap] w fun e w' => e = .returned (.int .i64 2) ∧ w' = w := by
  go_enter Tryz.func43, Tryz.ntmps43
  go_wp2
  go_ret
  exact ⟨rfl, rfl⟩
theorem cerror_none (a : Option Addr) (cap : Nat) (w : World) :
    Calls Tryz.prog 43 #[.slice a 0 cap] w fun e w' => e = .returned (.int .i64 0) ∧ w' = w := by
  go_enter Tryz.func43, Tryz.ntmps43
  go_wp2
  refine wp_loop_rounds 1 ?_
  rw [rounds_succ]
  go_wp2
  go_ret
  exact ⟨rfl, rfl⟩
set_option maxHeartbeats 8000000 in
theorem cerror_some (b off n cap : Nat) (L : List M.Com) (w : World) (hn : n ≤ 14) (hl : L.length = n) (hB : b < w.heap.size)
    (hc : ∀ i, i < n → ∃ a1 n1 c1 a2 n2 c2, w.cell? ⟨b, off + i * 2, none⟩ = some (.slice a1 n1 c1) ∧ w.cell? ⟨b, off + i * 2 + 1, none⟩ = some (.slice a2 n2 c2) ∧ Rd w a1 n1 (L.getD i ([], [])).1 ∧ Ri w a2 n2 (L.getD i ([], [])).2 ∧ n1 ≤ 9223372036854775807 ∧ n2 ≤ 9223372036854775807) :
    Calls Tryz.prog 43 #[.slice (some ⟨b, off, none⟩) n cap] w fun e w' => e = .returned (.int .i64 (M.dchkF 0 L)) ∧ Below w.heap.size w w' := by
  have HC : Aside (∀ i, i < n → ∃ a1 n1 c1 a2 n2 c2, w.cell? ⟨b, off + i * 2, none⟩ = some (.slice a1 n1 c1) ∧ w.cell? ⟨b, off + i * 2 + 1, none⟩ = some (.slice a2 n2 c2) ∧ Rd w a1 n1 (L.getD i ([], [])).1 ∧ Ri w a2 n2 (L.getD i ([], [])).2 ∧ n1 ≤ 9223372036854775807 ∧ n2 ≤ 9223372036854775807) := hc
  have HL : Aside (L.length = n) := hl
  clear hc hl
  go_enter Tryz.func43, Tryz.ntmps43
  go_wp2
  go_loopg [3] n (fun g i wr => ∃ (k : Nat), k + g = n ∧ i = .int .i64 k ∧ Below w.heap.size w wr ∧ Aside (M.dchkF k (L.drop k) = M.dchkF 0 L))
  case atStart => exact ⟨0, by omega, rfl, Below.refl _ _, by simp [Aside]⟩
  case round =>
    obtain ⟨k, hk, rfl, hbel, A⟩ := hrel
    have hsz := hbel.size
    by_cases hlt : k < n
    · obtain ⟨a1, n1, c1, a2, n2, c2, q1, q2, r1, r2, m1, m2⟩ := HC.out k hlt
      obtain ⟨C, hC⟩ : ∃ C, L.getD k ([], []) = C := ⟨_, rfl⟩
      rw [hC] at r1 r2
      have c0 : wr.cell? ⟨b, off + k * 2, none⟩ = some (.slice a1 n1 c1) := (hbel.cell (p := ⟨b, off + k * 2, none⟩) hB).trans q1
      have HCh := error_any a1 n1 c1 C.1 wr (r1.below hbel (Nat.le_refl _)) m1
      have HX : Aside (L.getD k ([], []) = C) := hC
      have H2 : Hid (Ri w a2 n2 C.2) := r2
      have Q2 : Hid (w.cell? ⟨b, off + k * 2 + 1, none⟩ = some (.slice a2 n2 c2)) := q2
      have hki : (k : Int) < (n : Int) := by omega
      clear hC r1 r2 q1 q2
      obtain ⟨e1, he1⟩ : ∃ e1, e1 = M.chk C.1 := ⟨_, rfl⟩
      rw [← he1] at HCh
      have HE1 : Hid (e1 = M.chk C.1) := he1
      have HH : Hid (Calls Tryz.prog 16 #[.slice a1 n1 c1] wr fun e w' => e = .returned (.int .i64 e1) ∧ Below wr.heap.size wr w') := HCh
      clear he1 HCh
      by_cases hz : e1 = 0
      · have hne : (e1 != 0) = false := by simp [hz]
        have HZ : Hid (e1 = 0) := hz
        clear hz
        go_wp2_with fail
        refine HH.out.mono ?_
        rintro e w1 ⟨rfl, hb1⟩
        have hb2 : Below w.heap.size w w1 := hbel.trans (hb1.mono hbel.size)
        have c5 : w1.cell? ⟨b, off + k * 2 + 1, none⟩ = some (.slice a2 n2 c2) := (hb2.cell (p := ⟨b, off + k * 2 + 1, none⟩) hB).trans Q2.out
        clear hb1 HH c0
        by_cases hn2 : 2 < n2
        · have hd : decide ((2 : Int) < (n2 : Int)) = true := by simp; omega
          have hd' : decide (2 < n2) = true := by simp; omega
          have HF : Aside (M.pr k C.2 = false) := M.pr_long k C.2 (by rw [H2.out.1]; exact hn2)
          go_wp2_with fail
          go_quiet (fail)
          go_wp2
          go_ret
          exact ⟨ret_int (A.out.symm.trans (M.dchkF_form k L (by rw [HL.out]; exact hlt) C HX.out (by rw [← HE1.out]; exact HZ.out) HF.out)).symm, below_drewN hb2 _⟩
        · have hd : decide ((2 : Int) < (n2 : Int)) = false := by simp; omega
          have hd' : decide (2 < n2) = false := by simp; omega
          by_cases h2 : n2 = 2
          · subst h2
            obtain ⟨pb, po, rfl, hpB, hpc⟩ : ∃ pb po, a2 = some ⟨pb, po, none⟩ ∧ pb < w.heap.size ∧ ∀ i, i < 2 → w.cell? ⟨pb, po + i, none⟩ = some (.int .i64 (C.2.getD i 0)) := by
              rcases H2.out.cases with ⟨h0, _⟩ | ⟨pb, po, e, _, _, hpB, hpc⟩
              · omega
              · exact ⟨pb, po, e, hpB, hpc⟩
            obtain ⟨x0, hx0⟩ : ∃ x, C.2.getD 0 0 = x := ⟨_, rfl⟩
            obtain ⟨x1, hx1⟩ : ∃ x, C.2.getD 1 0 = x := ⟨_, rfl⟩
            have p0 : w1.cell? ⟨pb, po, none⟩ = some (.int .i64 x0) := by rw [hb2.cell (p := ⟨pb, po, none⟩) hpB]; have := hpc 0 (by omega); rw [hx0] at this; exact this
            have p1 : w1.cell? ⟨pb, po + 1, none⟩ = some (.int .i64 x1) := by rw [hb2.cell (p := ⟨pb, po + 1, none⟩) hpB]; have := hpc 1 (by omega); rw [hx1] at this; exact this
            have HX0 : Aside (C.2.getD 0 0 = x0) := hx0
            have HX1 : Aside (C.2.getD 1 0 = x1) := hx1
            have HPC : Aside (∀ i, i < 2 → w.cell? ⟨pb, po + i, none⟩ = some (.int .i64 (C.2.getD i 0))) := hpc
            clear hpc hx0 hx1 hd hd' hn2
            by_cases hge : x1 ≤ x0
            · have hdg : decide (x1 ≤ x0) = true := by simp [hge]
              have HF : Aside (M.pr k C.2 = false) := by
                unfold Aside
                by_cases hp : M.pr k C.2 = true
                · have h9 := ((M.pr_ref k C.2).1 hp).2.1 H2.out.1
                  rw [HX0.out, HX1.out] at h9
                  omega
                · simpa using hp
              go_wp2_with fail
              go_quiet (fail)
              go_wp2
              go_ret
              exact ⟨ret_int (A.out.symm.trans (M.dchkF_form k L (by rw [HL.out]; exact hlt) C HX.out (by rw [← HE1.out]; exact HZ.out) HF.out)).symm, below_drewN hb2 _⟩
            · have hdg : decide (x1 ≤ x0) = false := by simp; omega
              have HOrd : Aside (C.2.getD 0 0 < C.2.getD 1 0) := by unfold Aside; rw [HX0.out, HX1.out]; omega
              go_wp2_with fail
              go_quiet (fail)
              go_wp2
              go_loopg [6] 2 (fun g2 i ws => ∃ j : Nat, j + g2 = 2 ∧ i = .int .i64 j ∧ Below w.heap.size w ws ∧ Aside (∀ p ∈ C.2.take j, 0 ≤ p ∧ p < (k : Int)))
              case atStart => exact ⟨0, by omega, rfl, below_drewN hb2 _, by simp [Aside]⟩
              case round =>
                obtain ⟨j, hj, rfl, hb3, HIn⟩ := hrel
                by_cases hjl : j < 2
                · have hpc := HPC.out
                  obtain ⟨x, hx⟩ : ∃ x, C.2.getD j 0 = x := ⟨_, rfl⟩
                  have cx : wr.cell? ⟨pb, po + j, none⟩ = some (.int .i64 x) := by rw [hb3.cell (p := ⟨pb, po + j, none⟩) hpB, hpc j hjl, hx]
                  have HXm : Aside (x ∈ C.2) := by unfold Aside; rw [← hx]; have h2 := H2.out.1; simp [List.getD, h2, hjl]
                  have HTk : Aside (C.2.take (j + 1) = C.2.take j ++ [x]) := by unfold Aside; rw [List.take_succ_eq_append_getElem (by rw [H2.out.1]; exact hjl), ← hx]; have h2 := H2.out.1; simp [List.getD, h2, hjl]
                  clear hx hpc
                  have hji : (j : Int) < 2 := by omega
                  by_cases hw : 0 ≤ x ∧ x < (k : Int)
                  · have HW : Hid (∀ W, Calls Tryz.prog 45 #[.int .i64 x, .int .i64 0, .int .i64 ((k : Int) - 1)] W fun e w' => e = .returned (.bool true) ∧ w' = W) := fun W => within_yes x 0 ((k : Int) - 1) W hw.1 (by omega)
                    have HIn' : Aside (∀ p ∈ C.2.take (j + 1), 0 ≤ p ∧ p < (k : Int)) := by
                      intro p hp
                      rw [HTk.out] at hp
                      rcases List.mem_append.1 hp with hp | hp
                      · exact HIn.out p hp
                      · have : p = x := by simpa using hp
                        rw [this]; exact hw
                    clear hw
                    go_wp2_with fail
                    refine (HW.out _).mono ?_
                    rintro e w4 ⟨rfl, hw4⟩
                    subst hw4
                    go_wp2
                    go_roundg (gk - 1)
                    case measure => omega
                    case rel => exact ⟨j + 1, by omega, by go_num, hb3, HIn'⟩
                  · have HW : Hid (∀ W, Calls Tryz.prog 45 #[.int .i64 x, .int .i64 0, .int .i64 ((k : Int) - 1)] W fun e w' => e = .returned (.bool false) ∧ w' = W) := fun W => within_no x 0 ((k : Int) - 1) W (by omega)
                    have HF : Aside (M.pr k C.2 = false) := by
                      unfold Aside
                      by_cases hp : M.pr k C.2 = true
                      · exact absurd (((M.pr_ref k C.2).1 hp).2.2 x HXm.out) hw
                      · simpa using hp
                    clear hw
                    go_wp2_with fail
                    refine (HW.out _).mono ?_
                    rintro e w4 ⟨rfl, hw4⟩
                    subst hw4
                    go_wp2
                    go_ret
                    exact ⟨ret_int (A.out.symm.trans (M.dchkF_form k L (by rw [HL.out]; exact hlt) C HX.out (by rw [← HE1.out]; exact HZ.out) HF.out)).symm, hb3⟩
                · obtain rfl : j = 2 := by omega
                  have HT : Aside (M.pr k C.2 = true) := by
                    refine (M.pr_ref k C.2).2 ⟨by rw [H2.out.1]; omega, fun hl2 => HOrd.out, fun p hp => HIn.out p ?_⟩
                    rw [List.take_of_length_le (by rw [H2.out.1]; exact Nat.le_refl _)]; exact hp
                  go_wp2
                  go_roundg (n - (k + 1))
                  case measure => omega
                  case rel => exact ⟨k + 1, by omega, by go_num, hb3, by unfold Aside; rw [← A.out, M.dchkF_good k L (by rw [HL.out]; exact hlt) C HX.out (by rw [← HE1.out]; exact HZ.out) HT.out]⟩
          · have hdb : ((n2 : Int) == 2) = false := by simp; omega
            go_wp2_with fail
            go_quiet (fail)
            go_wp2
            go_loopg [6] n2 (fun g2 i ws => ∃ j : Nat, j + g2 = n2 ∧ i = .int .i64 j ∧ Below w.heap.size w ws ∧ Aside (∀ p ∈ C.2.take j, 0 ≤ p ∧ p < (k : Int)))
            case atStart => exact ⟨0, by omega, rfl, below_drewN hb2 _, by simp [Aside]⟩
            case round =>
              obtain ⟨j, hj, rfl, hb3, HIn⟩ := hrel
              by_cases hjl : j < n2
              · obtain ⟨pb, po, rfl, hpB, hpc⟩ : ∃ pb po, a2 = some ⟨pb, po, none⟩ ∧ pb < w.heap.size ∧ ∀ i, i < n2 → w.cell? ⟨pb, po + i, none⟩ = some (.int .i64 (C.2.getD i 0)) := by
                  rcases H2.out.cases with ⟨h0, _⟩ | ⟨pb, po, e, _, _, hpB, hpc⟩
                  · omega
                  · exact ⟨pb, po, e, hpB, hpc⟩
                obtain ⟨x, hx⟩ : ∃ x, C.2.getD j 0 = x := ⟨_, rfl⟩
                have cx : wr.cell? ⟨pb, po + j, none⟩ = some (.int .i64 x) := by rw [hb3.cell (p := ⟨pb, po + j, none⟩) hpB, hpc j hjl, hx]
                have HXm : Aside (x ∈ C.2) := by unfold Aside; rw [← hx]; have h2 := H2.out.1; simp [List.getD, h2, hjl]
                have HTk : Aside (C.2.take (j + 1) = C.2.take j ++ [x]) := by unfold Aside; rw [List.take_succ_eq_append_getElem (by rw [H2.out.1]; exact hjl), ← hx]; have h2 := H2.out.1; simp [List.getD, h2, hjl]
                clear hx hpc
                have hji : (j : Int) < (n2 : Int) := by omega
                by_cases hw : 0 ≤ x ∧ x < (k : Int)
                · have HW : Hid (∀ W, Calls Tryz.prog 45 #[.int .i64 x, .int .i64 0, .int .i64 ((k : Int) - 1)] W fun e w' => e = .returned (.bool true) ∧ w' = W) := fun W => within_yes x 0 ((k : Int) - 1) W hw.1 (by omega)
                  have HIn' : Aside (∀ p ∈ C.2.take (j + 1), 0 ≤ p ∧ p < (k : Int)) := by
                    intro p hp
                    rw [HTk.out] at hp
                    rcases List.mem_append.1 hp with hp | hp
                    · exact HIn.out p hp
                    · have : p = x := by simpa using hp
                      rw [this]; exact hw
                  clear hw
                  go_wp2_with fail
                  refine (HW.out _).mono ?_
                  rintro e w4 ⟨rfl, hw4⟩
                  subst hw4
                  go_wp2
                  go_roundg (gk - 1)
                  case measure => omega
                  case rel => exact ⟨j + 1, by omega, by go_num, hb3, HIn'⟩
                · have HW : Hid (∀ W, Calls Tryz.prog 45 #[.int .i64 x, .int .i64 0, .int .i64 ((k : Int) - 1)] W fun e w' => e = .returned (.bool false) ∧ w' = W) := fun W => within_no x 0 ((k : Int) - 1) W (by omega)
                  have HF : Aside (M.pr k C.2 = false) := by
                    unfold Aside
                    by_cases hp : M.pr k C.2 = true
                    · exact absurd (((M.pr_ref k C.2).1 hp).2.2 x HXm.out) hw
                    · simpa using hp
                  clear hw
                  go_wp2_with fail
                  refine (HW.out _).mono ?_
                  rintro e w4 ⟨rfl, hw4⟩
                  subst hw4
                  go_wp2
                  go_ret
                  exact ⟨ret_int (A.out.symm.trans (M.dchkF_form k L (by rw [HL.out]; exact hlt) C HX.out (by rw [← HE1.out]; exact HZ.out) HF.out)).symm, hb3⟩
              · obtain rfl : j = n2 := by omega
                have HT : Aside (M.pr k C.2 = true) := by
                  refine (M.pr_ref k C.2).2 ⟨by rw [H2.out.1]; omega, fun hl2 => absurd (H2.out.1.symm.trans hl2) h2, fun p hp => HIn.out p ?_⟩
                  rw [List.take_of_length_le (by rw [H2.out.1]; exact Nat.le_refl _)]; exact hp
                go_wp2
                go_roundg (n - (k + 1))
                case measure => omega
                case rel => exact ⟨k + 1, by omega, by go_num, hb3, by unfold Aside; rw [← A.out, M.dchkF_good k L (by rw [HL.out]; exact hlt) C HX.out (by rw [← HE1.out]; exact HZ.out) HT.out]⟩
      · have hne : (e1 != 0) = true := by simp [hz]
        have HZ : Hid (e1 ≠ 0) := hz
        clear hz
        go_wp2_with fail
        refine HH.out.mono ?_
        rintro e w1 ⟨rfl, hb1⟩
        have hb2 : Below w.heap.size w w1 := hbel.trans (hb1.mono hbel.size)
        clear hb1
        go_wp2
        go_ret
        exact ⟨ret_int (by rw [← A.out, M.dchkF_bad k L (by rw [HL.out]; exact hlt) C HX.out (by rw [← HE1.out]; exact HZ.out)]; exact HE1.out), hb2⟩
    · go_wp2
      go_ret
      exact ⟨ret_int (A.out.symm.trans (M.dchkF_end k L (by rw [HL.out]; omega))).symm, hbel⟩
theorem cerror_any (a : Option Addr) (n cap : Nat) (L : List M.Com) (w : World) (h : Cm w a n L) (hm : n ≤ 9223372036854775807) :
    Calls Tryz.prog 43 #[.slice a n cap] w fun e w' => e = .returned (.int .i64 (M.dchk L)) ∧ Below w.heap.size w w' := by
  by_cases h14 : 14 < n
  · refine (cerror_many a n cap w h14 hm).mono ?_
    rintro e w' ⟨rfl, rfl⟩
    exact ⟨by rw [M.dchk_many L (by rw [h.1]; exact h14)], Below.refl _ _⟩
  · have e := M.dchk_few L (by rw [h.1]; omega)
    rcases h.cases with ⟨rfl, rfl⟩ | ⟨b, off, rfl, hn, hl, hB, hc⟩
    · refine (cerror_none a cap w).mono ?_
      rintro e w' ⟨rfl, rfl⟩
      exact ⟨rfl, Below.refl _ _⟩
    · rw [e]
      exact cerror_some b off n cap L w (by omega) hl hB hc
end Go.Proofs.YtcgpgflnihjpiagGreat
namespace Go.Proofs.YtcgpgflnihjpiagGreat
open Go.RowKit Go.PlainAid
set_option maxHeartbeats 2000000 in
theorem rname_any (s : ByteArray) (w : World) (hm : s.size ≤ 9223372036854775807) :
    Calls Tryz.prog 44 #[.string s] w fun e w' => e = .returned (.bool (M.nam s)) ∧ Below w.heap.size w w' := by
  have hbt := get_bt s
  go_enter Tryz.func44, Tryz.ntmps44
  go_wp2
  go_loopg [3] s.size (fun g i wr => ∃ (k : Nat), k + g = s.size ∧ i = .int .i64 k ∧ wr = w ∧ Aside (M.lets s k = M.lets s 0))
  case atStart => exact ⟨0, by omega, rfl, rfl, rfl⟩
  case round =>
    obtain ⟨k, hk, rfl, rfl, A⟩ := hrel
    by_cases hlt : k < s.size
    · have hki : (k : Int) < (s.size : Int) := by omega
      by_cases hl : 97 ≤ bt s k ∧ bt s k ≤ 122
      · have A2 : Aside (M.lets s (k + 1) = M.lets s 0) := by unfold Aside; rw [← M.lets_good s k hl.1 hl.2]; exact A.out
        have h1 : decide (bt s k < 97) = false := by simp; omega
        have h2 : decide (122 < bt s k) = false := by simp; omega
        clear hl A
        go_wp2
        go_roundg (gk - 1)
        case measure => omega
        case rel => exact ⟨k + 1, by omega, by go_num, rfl, A2⟩
      · have A2 : Aside (M.lets s 0 = false) := by unfold Aside; rw [← A.out]; exact M.lets_bad s k hlt (by omega)
        have E : Aside (M.nam s = false) := by unfold Aside M.nam; rw [A2.out]; simp
        clear A
        by_cases h7 : bt s k < 97
        · have h1 : decide (bt s k < 97) = true := by simp [h7]
          clear hl h7
          go_wp2
          go_ret
          exact ⟨ret_bool E.out.symm, Below.refl _ _⟩
        · have h1 : decide (bt s k < 97) = false := by simp; omega
          have h2 : decide (122 < bt s k) = true := by simp; omega
          clear hl h7
          go_wp2
          go_ret
          exact ⟨ret_bool E.out.symm, Below.refl _ _⟩
    · have A2 : Aside (M.lets s 0 = true) := by unfold Aside; rw [← A.out]; exact M.lets_end s k (by omega)
      clear A
      by_cases h8 : 1 ≤ s.size ∧ s.size ≤ 8
      · have HW : Hid (∀ W, Calls Tryz.prog 45 #[.int .i64 (s.size : Int), .int .i64 1, .int .i64 8] W fun e w' => e = .returned (.bool true) ∧ w' = W) := fun W => within_yes _ 1 8 W (by omega) (by omega)
        have E : Aside (M.nam s = true) := by unfold Aside; rw [M.nam_few s (by omega) (by omega)]; exact A2.out
        go_wp2_with (go_at_call 45; refine (HW.out _).mono ?_; rintro e w2 ⟨rfl, rfl⟩)
        go_ret
        exact ⟨ret_bool E.out.symm, Below.refl _ _⟩
      · have HW : Hid (∀ W, Calls Tryz.prog 45 #[.int .i64 (s.size : Int), .int .i64 1, .int .i64 8] W fun e w' => e = .returned (.bool false) ∧ w' = W) := fun W => within_no _ 1 8 W (by omega)
        have E : Aside (M.nam s = false) := by
          unfold Aside
          by_cases h0 : s.size = 0
          · exact M.nam_none s h0
          · exact M.nam_long s (by omega)
        go_wp2_with (go_at_call 45; refine (HW.out _).mono ?_; rintro e w2 ⟨rfl, rfl⟩)
        go_ret
        exact ⟨ret_bool E.out.symm, Below.refl _ _⟩
end Go.Proofs.YtcgpgflnihjpiagGreat
namespace Go.Proofs.YtcgpgflnihjpiagGreat
open Go.RowKit
set_option maxHeartbeats 8000000 in
theorem rerror_any (a : Option Addr) (n cap : Nat) (C : List M.Com) (a2 : Option Addr) (n2 cap2 : Nat) (H : List M.Hd) (w : World) (hC : Cm w a n C) (hn : n ≤ 9223372036854775807) (hH : Hs w a2 n2 H) (hn2 : n2 ≤ 9223372036854775807) :
    Calls Tryz.prog 15 #[.agg #[.slice a n cap, .slice a2 n2 cap2]] w fun e w' => e = .returned (.int .i64 (M.rchk C H)) ∧ Below w.heap.size w w' := by
  obtain ⟨p, hp⟩ : ∃ p, p = w.heap.size := ⟨_, rfl⟩
  have I0 := InBox.new w a n cap C a2 n2 cap2 H hC hH
  obtain ⟨W, hW⟩ : ∃ W, W = w.alloc (.cells #[.slice a n cap, .slice a2 n2 cap2] 35) := ⟨_, rfl⟩
  have hb : Below w.heap.size w W := by rw [hW]; exact (Below.refl _ _).alloc (Nat.le_refl _) _
  rw [← hW, ← hp] at I0
  have q0 := I0.c0
  have HD := cerror_any a n cap C W I0.cm hn
  obtain ⟨c, hc⟩ : ∃ c, c = M.dchk C := ⟨_, rfl⟩
  rw [← hc] at HD
  have HCc : Aside (c = M.dchk C) := hc
  have HDD : Hid (Calls Tryz.prog 43 #[.slice a n cap] W fun e w' => e = .returned (.int .i64 c) ∧ Below W.heap.size W w') := HD
  have HI : Aside (InBox W p a n cap C a2 n2 cap2 H) := I0
  have HW : Hid (W = w.alloc (.cells #[.slice a n cap, .slice a2 n2 cap2] 35)) := hW
  have HP : Aside (p = w.heap.size) := hp
  have HHl : Aside (H.length = n2) := hH.1
  have HCl : Aside (C.length = n) := hC.1
  clear hW HD hc hp I0 hC hH
  go_enter Tryz.func15, Tryz.ntmps15
  go_wp2_with fail
  rw [← HW.out, ← HP.out]
  refine HDD.out.mono ?_
  rintro e w1 ⟨rfl, hb1⟩
  have J1 := HI.out.below hb1
  have d0 := J1.c0
  have d1 := J1.c1
  have HJ : Aside (InBox w1 p a n cap C a2 n2 cap2 H) := J1
  have hbw1 : Below w.heap.size w w1 := hb.trans (hb1.mono hb.size)
  clear J1 q0 hb1
  by_cases hz : c = 0
  · have hne : (c != 0) = false := by simp [hz]
    have HZ : Aside (M.dchk C = 0) := by unfold Aside; rw [← HCc.out]; exact hz
    clear hz
    by_cases h4 : 4 < n2
    · have E : Aside (M.rchk C H = 2) := by unfold Aside M.rchk; rw [if_neg (by rw [HZ.out]; simp), if_pos (by rw [HHl.out]; exact h4)]
      have h4' : decide (4 < (n2 : Int)) = true := by simp; omega
      go_wp2
      go_ret
      exact ⟨ret_int E.out.symm, hbw1⟩
    · have h4' : decide (4 < (n2 : Int)) = false := by simp; omega
      have E1 : Aside (M.rchk C H = if M.named H = false then 4 else if M.inside C.length H = false then 1 else if M.rise H = false then 1 else 0) := by unfold Aside M.rchk; rw [if_neg (by rw [HZ.out]; simp), if_neg (by rw [HHl.out]; exact h4)]
      have hn14 : n ≤ 14 := by rw [← HCl.out]; exact (M.dchk_zero HZ.out).1
      go_wp2
      go_loopg [4] n2 (fun g i wr => ∃ (k : Nat), k + g = n2 ∧ i = .int .i64 k ∧ Below w1.heap.size w1 wr ∧ Aside (∀ j, j < k → M.nam (H.getD j M.hd0).1 = true))
      case atStart => exact ⟨0, by omega, rfl, Below.refl _ _, fun j hj => by omega⟩
      case round =>
        obtain ⟨k, hk, rfl, hbel, A⟩ := hrel
        have J2 := HJ.out.below hbel
        have e1 := J2.c1
        have hbw : Below w.heap.size w wr := hbw1.trans (hbel.mono hbw1.size)
        by_cases hlt : k < n2
        · obtain ⟨x, hx⟩ : ∃ x, H.getD k M.hd0 = x := ⟨_, rfl⟩
          obtain ⟨b, off, rfl, c3, hsz⟩ : ∃ b off, a2 = some ⟨b, off, none⟩ ∧ wr.cell? ⟨b, off + k * 2, none⟩ = some (.string x.1) ∧ x.1.size ≤ 9223372036854775807 := by
            rcases J2.hs.cases with ⟨h0, _⟩ | ⟨b, off, ea, _, _, hB, hc⟩
            · omega
            · exact ⟨b, off, ea, by rw [(hc k hlt).1, hx], by have := (hc k hlt).2.2; rw [hx] at this; exact this⟩
          have hN := rname_any x.1 wr hsz
          obtain ⟨t, ht⟩ : ∃ t, M.nam x.1 = t := ⟨_, rfl⟩
          rw [ht] at hN
          have HN : Hid (Calls Tryz.prog 44 #[.string x.1] wr fun e w' => e = .returned (.bool t) ∧ Below wr.heap.size wr w') := hN
          have HT : Aside (M.nam (H.getD k M.hd0).1 = t) := by unfold Aside; rw [hx]; exact ht
          have hki : (k : Int) < (n2 : Int) := by omega
          clear hx hN ht J2
          go_wp2_with fail
          refine HN.out.mono ?_
          rintro e w3 ⟨rfl, hb3⟩
          cases t with
          | true =>
            go_wp2
            go_roundg (gk - 1)
            case measure => omega
            case rel => exact ⟨k + 1, by omega, by go_num, dbelow2 hbel hb3, fun j hj => by
              by_cases e : j = k
              · subst e; exact HT.out
              · exact A.out j (by omega)⟩
          | false =>
            go_wp2
            go_ret
            exact ⟨ret_int (by rw [E1.out, if_pos (M.named_no (by rw [HHl.out]; exact hlt) HT.out)]), hbw.trans (hb3.mono hbw.size)⟩
        · obtain rfl : k = n2 := by omega
          have E2 : Aside (M.rchk C H = if M.inside C.length H = false then 1 else if M.rise H = false then 1 else 0) := by
            unfold Aside
            rw [E1.out, if_neg (by rw [M.named_at (fun j hj => A.out j (by rw [← HHl.out]; exact hj))]; simp)]
          have hkk : decide ((k : Int) < (k : Int)) = false := by simp
          obtain ⟨w4, hw4⟩ : ∃ w4, w4 = wr := ⟨_, rfl⟩
          rw [← hw4] at hbw J2 e1 ⊢
          have HJ4 : Aside (InBox w4 p a n cap C a2 k cap2 H) := J2
          clear A E1 hw4 hbel J2
          go_wp2
          go_loopg [5] k (fun g i ws => ∃ (j : Nat), j + g = k ∧ i = .int .i64 j ∧ Below w4.heap.size w4 ws ∧ Aside (M.fineTo C.length H j))
          case atStart => exact ⟨0, by omega, rfl, Below.refl _ _, fun j hj => by omega⟩
          case round =>
            obtain ⟨j, hj, rfl, hbel, A⟩ := hrel
            have J5 := HJ4.out.below hbel
            have f0 := J5.c0
            have f1 := J5.c1
            have hbs : Below w.heap.size w wr := hbw.trans (hbel.mono hbw.size)
            by_cases hjl : j < k
            · obtain ⟨x, hx⟩ : ∃ x, H.getD j M.hd0 = x := ⟨_, rfl⟩
              obtain ⟨b, off, rfl, hcc⟩ : ∃ b off, a2 = some ⟨b, off, none⟩ ∧ ∀ i, i < k → wr.cell? ⟨b, off + i * 2, none⟩ = some (.string (H.getD i M.hd0).1) ∧ wr.cell? ⟨b, off + i * 2 + 1, none⟩ = some (.int .i64 (H.getD i M.hd0).2) := by
                rcases J5.hs.cases with ⟨h0, _⟩ | ⟨b, off, ea, _, _, hB, hc⟩
                · omega
                · exact ⟨b, off, ea, fun i hi => ⟨(hc i hi).1, (hc i hi).2.1⟩⟩
              have c3 := (hcc j hjl).1
              have c4 := (hcc j hjl).2
              rw [hx] at c3 c4
              have HX : Aside (H.getD j M.hd0 = x) := hx
              have hji : (j : Int) < (k : Int) := by omega
              have hn1 : IntKind.i64.wrap ((n : Int) - 1) = (n : Int) - 1 := by rw [IntKind.wrap_i64]; omega
              by_cases hin : 0 ≤ x.2 ∧ x.2 < (n : Int)
              · have HW1 : Hid (∀ W, Calls Tryz.prog 45 #[.int .i64 x.2, .int .i64 0, .int .i64 ((n : Int) - 1)] W fun e w' => e = .returned (.bool true) ∧ w' = W) := fun W => within_yes x.2 0 ((n : Int) - 1) W hin.1 (by omega)
                have HIn : Aside (0 ≤ (H.getD j M.hd0).2 ∧ (H.getD j M.hd0).2 < (C.length : Int)) := by unfold Aside; rw [hx, HCl.out]; exact hin
                cases j with
                | zero =>
                  clear hin hx hcc J5
                  go_wp2_with fail
                  go_quiet ((go_at_call 45; exact Calls.quiet_of_same (HW1.out _)))
                  go_wp2
                  go_roundg (gk - 1)
                  case measure => omega
                  case rel => exact ⟨0 + 1, by omega, by go_num, below_drewN hbel _, M.fineTo_next A.out (fun i hi => by omega) HIn.out⟩
                | succ j =>
                  obtain ⟨y, hy⟩ : ∃ y, H.getD j M.hd0 = y := ⟨_, rfl⟩
                  have c5 := (hcc j (by omega)).1
                  rw [hy] at c5
                  obtain ⟨t, ht⟩ : ∃ t, M.less y.1 x.1 = t := ⟨_, rfl⟩
                  have hlt' : Op.bytesLess y.1.toList x.1.toList = t := ht
                  have HT : Aside (M.less (H.getD j M.hd0).1 (H.getD (j + 1) M.hd0).1 = t) := by unfold Aside; rw [hy, hx]; exact ht
                  have hjw : IntKind.i64.wrap (((j + 1 : Nat) : Int) - 1) = (j : Int) := by rw [IntKind.wrap_i64]; omega
                  have hjk : (j : Int) < (k : Int) := by omega
                  have hj0 : decide ((0 : Int) < ((j + 1 : Nat) : Int)) = true := decide_eq_true (by omega)
                  clear hin hx hcc J5 hy ht
                  cases t with
                  | true =>
                    go_wp2_with fail
                    go_quiet ((go_at_call 45; exact Calls.quiet_of_same (HW1.out _)))
                    go_wp2
                    go_roundg (gk - 1)
                    case measure => omega
                    case rel => exact ⟨j + 1 + 1, by omega, by go_num, below_drewN hbel _, M.fineTo_next A.out (fun i hi => by cases Nat.succ.inj hi; exact HT.out) HIn.out⟩
                  | false =>
                    go_wp2_with fail
                    go_quiet ((go_at_call 45; exact Calls.quiet_of_same (HW1.out _)))
                    go_wp2
                    go_ret
                    have hbad := M.fineTo_bad (n := C.length) (H := H) (k := j + 1) (by rw [HHl.out]; exact hjl) (Or.inl ⟨j, rfl, HT.out⟩)
                    exact ⟨ret_int (by rw [E2.out]; rcases hbad with h | h <;> simp [h]), below_drewN hbs _⟩
              · have HW1 : Hid (∀ W, Calls Tryz.prog 45 #[.int .i64 x.2, .int .i64 0, .int .i64 ((n : Int) - 1)] W fun e w' => e = .returned (.bool false) ∧ w' = W) := fun W => within_no x.2 0 ((n : Int) - 1) W (by omega)
                have hbad := M.fineTo_bad (n := C.length) (H := H) (k := j) (by rw [HHl.out]; exact hjl) (Or.inr (by rw [hx, HCl.out]; omega))
                have E3 : Aside (M.rchk C H = 1) := by unfold Aside; rw [E2.out]; rcases hbad with h | h <;> simp [h]
                clear hbad
                cases j with
                | zero =>
                  clear hin hx hcc J5
                  go_wp2_with fail
                  go_quiet ((go_at_call 45; exact Calls.quiet_of_same (HW1.out _)))
                  go_wp2
                  go_ret
                  exact ⟨ret_int E3.out.symm, below_drewN hbs _⟩
                | succ j =>
                  obtain ⟨y, hy⟩ : ∃ y, H.getD j M.hd0 = y := ⟨_, rfl⟩
                  have c5 := (hcc j (by omega)).1
                  rw [hy] at c5
                  obtain ⟨t, ht⟩ : ∃ t, Op.bytesLess y.1.toList x.1.toList = t := ⟨_, rfl⟩
                  have hjw : IntKind.i64.wrap (((j + 1 : Nat) : Int) - 1) = (j : Int) := by rw [IntKind.wrap_i64]; omega
                  have hjk : (j : Int) < (k : Int) := by omega
                  have hj0 : decide ((0 : Int) < ((j + 1 : Nat) : Int)) = true := decide_eq_true (by omega)
                  clear hin hx hcc J5 hy
                  cases t with
                  | true =>
                    go_wp2_with fail
                    go_quiet ((go_at_call 45; exact Calls.quiet_of_same (HW1.out _)))
                    go_wp2
                    go_ret
                    exact ⟨ret_int E3.out.symm, below_drewN hbs _⟩
                  | false =>
                    go_wp2_with fail
                    go_quiet ((go_at_call 45; exact Calls.quiet_of_same (HW1.out _)))
                    go_wp2
                    go_ret
                    exact ⟨ret_int E3.out.symm, below_drewN hbs _⟩
            · obtain rfl : j = k := by omega
              have hkk2 : decide ((j : Int) < (j : Int)) = false := by simp
              have hA := A.out
              rw [← HHl.out] at hA
              have E3 : Aside (M.rchk C H = 0) := by unfold Aside; rw [E2.out, (M.fineTo_end hA).1, (M.fineTo_end hA).2]; rfl
              clear hA A J5
              go_wp2
              go_ret
              exact ⟨ret_int E3.out.symm, hbs⟩
  · have hne : (c != 0) = true := by simp [hz]
    have E : Aside (M.rchk C H = c) := by unfold Aside M.rchk; rw [if_pos (by rw [← HCc.out]; exact hz)]; exact HCc.out.symm
    clear hz
    go_wp2
    go_ret
    exact ⟨ret_int E.out.symm, hbw1⟩
set_option maxHeartbeats 4000000 in
theorem headAt_any (a : Option Addr) (n cap : Nat) (C : List M.Com) (a2 : Option Addr) (n2 cap2 : Nat) (H : List M.Hd) (s : ByteArray) (w : World) (hC : Cm w a n C) (hH : Hs w a2 n2 H) (hn2 : n2 ≤ 9223372036854775807) :
    Calls Tryz.prog 99 #[.agg #[.slice a n cap, .slice a2 n2 cap2], .string s] w fun e w' => e = .returned (.int .i64 (M.plc H s)) ∧ Below w.heap.size w w' := by
  obtain ⟨p, hp⟩ : ∃ p, p = w.heap.size := ⟨_, rfl⟩
  have I0 := InBox.new w a n cap C a2 n2 cap2 H hC hH
  obtain ⟨W, hW⟩ : ∃ W, W = w.alloc (.cells #[.slice a n cap, .slice a2 n2 cap2] 35) := ⟨_, rfl⟩
  have hb : Below w.heap.size w W := by rw [hW]; exact (Below.refl _ _).alloc (Nat.le_refl _) _
  rw [← hW, ← hp] at I0
  have q1 := I0.c1
  have HHs : Aside (Hs W a2 n2 H) := I0.hs
  have HW : Hid (W = w.alloc (.cells #[.slice a n cap, .slice a2 n2 cap2] 35)) := hW
  have HP : Aside (p = w.heap.size) := hp
  have HHl : Aside (H.length = n2) := hH.1
  clear hW hp I0 hC hH
  go_enter Tryz.func99, Tryz.ntmps99
  go_wp2
  rw [← HW.out, ← HP.out]
  go_loopg [5] n2 (fun g i wr => ∃ (k : Nat), k + g = n2 ∧ i = .int .i64 k ∧ wr = W ∧ Aside (M.idxF (fun h => M.alike h.1 s) (H.drop k) k = M.plc H s))
  case atStart => exact ⟨0, by omega, rfl, rfl, rfl⟩
  case round =>
    obtain ⟨k, hk, rfl, rfl, A⟩ := hrel
    by_cases hlt : k < n2
    · obtain ⟨x, hx⟩ : ∃ x, H.getD k M.hd0 = x := ⟨_, rfl⟩
      obtain ⟨b, off, rfl, c3⟩ : ∃ b off, a2 = some ⟨b, off, none⟩ ∧ wr.cell? ⟨b, off + k * 2, none⟩ = some (.string x.1) := by
        rcases HHs.out.cases with ⟨h0, _⟩ | ⟨b, off, ea, _, _, hB, hc⟩
        · omega
        · exact ⟨b, off, ea, by rw [(hc k hlt).1, hx]⟩
      obtain ⟨t, ht⟩ : ∃ t, M.alike x.1 s = t := ⟨_, rfl⟩
      have ht' : (x.1.toList == s.toList) = t := ht
      have HT : Aside (M.alike (H.getD k M.hd0).1 s = t) := by unfold Aside; rw [hx]; exact ht
      have hki : (k : Int) < (n2 : Int) := by omega
      clear hx ht
      cases t with
      | true =>
        go_wp2
        go_ret
        exact ⟨ret_int (by rw [← A.out, M.idxF_yes (fun h => M.alike h.1 s) H k M.hd0 (by rw [HHl.out]; exact hlt) HT.out]), hb⟩
      | false =>
        go_wp2
        go_roundg (gk - 1)
        case measure => omega
        case rel => exact ⟨k + 1, by omega, by go_num, rfl, by unfold Aside; rw [← A.out, M.idxF_no (fun h => M.alike h.1 s) H k M.hd0 (by rw [HHl.out]; exact hlt) HT.out]⟩
    · go_wp2
      go_ret
      exact ⟨ret_int (by rw [← A.out, M.idxF_end (fun h => M.alike h.1 s) H k (by rw [HHl.out]; omega)]), hb⟩
set_option maxHeartbeats 4000000 in
theorem headOf_any (a : Option Addr) (n cap : Nat) (C : List M.Com) (a2 : Option Addr) (n2 cap2 : Nat) (H : List M.Hd) (s : ByteArray) (w : World) (hC : Cm w a n C) (hn : n ≤ 9223372036854775807) (hH : Hs w a2 n2 H) (hn2 : n2 ≤ 9223372036854775807) :
    Calls Tryz.prog 95 #[.agg #[.slice a n cap, .slice a2 n2 cap2], .string s] w fun e w' => e = .returned (.tuple #[.int .i64 (M.hat C H s), .int .i64 (M.hchk C H s)]) ∧ Below w.heap.size w w' := by
  obtain ⟨p, hp⟩ : ∃ p, p = w.heap.size := ⟨_, rfl⟩
  have I1 := InBox.new w a n cap C a2 n2 cap2 H hC hH
  obtain ⟨W, hW⟩ : ∃ W, W = w.alloc (.cells #[.slice a n cap, .slice a2 n2 cap2] 35) := ⟨_, rfl⟩
  have hb : Below w.heap.size w W := by rw [hW]; exact (Below.refl _ _).alloc (Nat.le_refl _) _
  rw [← hW, ← hp] at I1
  have q0 := I1.c0
  have q1 := I1.c1
  have HK := rerror_any a n cap C a2 n2 cap2 H W I1.cm hn I1.hs hn2
  obtain ⟨c, hc⟩ : ∃ c, c = M.rchk C H := ⟨_, rfl⟩
  rw [← hc] at HK
  have HCc : Aside (c = M.rchk C H) := hc
  have HKK : Hid (Calls Tryz.prog 15 #[.agg #[.slice a n cap, .slice a2 n2 cap2]] W fun e w' => e = .returned (.int .i64 c) ∧ Below W.heap.size W w') := HK
  have HI : Aside (InBox W p a n cap C a2 n2 cap2 H) := I1
  have HW : Hid (W = w.alloc (.cells #[.slice a n cap, .slice a2 n2 cap2] 35)) := hW
  have HP : Aside (p = w.heap.size) := hp
  have HHl : Aside (H.length = n2) := hH.1
  clear hW HK hc hp I1 hC hH
  go_enter Tryz.func95, Tryz.ntmps95
  go_wp2_with fail
  rw [← HW.out, ← HP.out]
  go_wp2_with fail
  refine HKK.out.mono ?_
  rintro e w1 ⟨rfl, hb1⟩
  have J1 := HI.out.below hb1
  have d0 := J1.c0
  have d1 := J1.c1
  have HJ : Aside (InBox w1 p a n cap C a2 n2 cap2 H) := J1
  clear J1 q0 q1
  by_cases hz : c = 0
  · have hne : (c != 0) = false := by simp [hz]
    have HZ : Aside (M.rchk C H = 0) := by unfold Aside; rw [← HCc.out]; exact hz
    clear hz
    have KK : Hid (Calls Tryz.prog 99 #[.agg #[.slice a n cap, .slice a2 n2 cap2], .string s] w1 fun e w' => e = .returned (.int .i64 (M.plc H s)) ∧ Below w1.heap.size w1 w') := headAt_any a n cap C a2 n2 cap2 H s w1 HJ.out.cm HJ.out.hs hn2
    have hpl := M.plc_lt H s
    obtain ⟨i, hi⟩ : ∃ i, M.plc H s = i := ⟨_, rfl⟩
    rw [hi] at KK hpl
    rw [HHl.out] at hpl
    have HIi : Aside (M.plc H s = i) := hi
    clear hi
    go_wp2_with fail
    refine KK.out.mono ?_
    rintro e w2 ⟨rfl, hb2⟩
    have b2 := dbelow2 hb1 hb2
    have J2 := HJ.out.below hb2
    have e0 := J2.c0
    have e1 := J2.c1
    clear d0 d1
    rcases hpl with rfl | ⟨h0, h1⟩
    · have E : Aside (M.hchk C H s = 5) := by unfold Aside M.hchk; rw [if_neg (by rw [HZ.out]; simp), HIi.out, if_pos (by omega)]
      clear J2
      go_wp2
      go_ret2
      exact ⟨ret_pair (M.hat_zero (by rw [E.out]; simp)).symm E.out.symm, hb.trans (b2.mono hb.size)⟩
    · obtain ⟨k, rfl⟩ : ∃ k : Nat, i = (k : Int) := ⟨i.toNat, by omega⟩
      have hk : k < n2 := by omega
      have E : Aside (M.hchk C H s = 0) := by unfold Aside M.hchk; rw [if_neg (by rw [HZ.out]; simp), HIi.out, if_neg (by omega)]
      obtain ⟨x, hx⟩ : ∃ x, (H.getD k M.hd0).2 = x := ⟨_, rfl⟩
      have E2 : Aside (M.hat C H s = x) := by unfold Aside M.hat; rw [if_neg (by rw [E.out]; simp), HIi.out, ← hx]; rfl
      obtain ⟨hb3, ho, rfl, c3⟩ : ∃ b off, a2 = some ⟨b, off, none⟩ ∧ w2.cell? ⟨b, off + k * 2 + 1, none⟩ = some (.int .i64 x) := by
        rcases J2.hs.cases with ⟨h0, _⟩ | ⟨b, off, ea, _, _, hB, hc⟩
        · omega
        · exact ⟨b, off, ea, by rw [(hc k hk).2.1, hx]⟩
      have hlt0 : decide ((k : Int) < 0) = false := by simp
      clear J2 hx h0
      go_wp2
      go_ret2
      exact ⟨ret_pair E2.out.symm E.out.symm, hb.trans (b2.mono hb.size)⟩
  · have hne : (c != 0) = true := by simp [hz]
    have E : Aside (M.hchk C H s = c) := by unfold Aside M.hchk; rw [if_pos (by rw [← HCc.out]; exact hz)]; exact HCc.out.symm
    have HZ : Aside (c ≠ 0) := hz
    clear hz
    go_wp2
    go_ret2
    exact ⟨ret_pair (M.hat_zero (by rw [E.out]; exact HZ.out)).symm E.out.symm, hb.trans (hb1.mono hb.size)⟩
end Go.Proofs.YtcgpgflnihjpiagGreat
namespace Go.Proofs.YtcgpgflnihjpiagGreat
namespace M
def prevC (l : List Chg) : Nat → Int
  | 0 => -1
  | k + 1 => (l.getD k (0, 0, 0)).1
end M
open Go.RowKit
theorem cfine_none (a : Option Addr) (cap : Nat) (w : World) :
    Calls Tryz.prog 96 #[.slice a 0 cap] w fun e w' => e = .returned (.bool true) ∧ w' = w := by
  go_enter Tryz.func96, Tryz.ntmps96
  go_wp2
  refine wp_loop_rounds 1 ?_
  rw [rounds_succ]
  go_wp2
  go_ret
  exact ⟨rfl, rfl⟩
set_option maxHeartbeats 8000000 in
theorem cfine_some (b off n cap : Nat) (l : List M.Chg) (w : World) (hm : n ≤ 9223372036854775807) (hl : l.length = n) (hB : b < w.heap.size)
    (hc : ∀ i, i < n → w.cell? ⟨b, off + i * 3, none⟩ = some (.int .i64 (l.getD i (0, 0, 0)).1) ∧ w.cell? ⟨b, off + i * 3 + 1, none⟩ = some (.int .i64 (l.getD i (0, 0, 0)).2.1) ∧ w.cell? ⟨b, off + i * 3 + 2, none⟩ = some (.int .i64 (l.getD i (0, 0, 0)).2.2)) :
    Calls Tryz.prog 96 #[.slice (some ⟨b, off, none⟩) n cap] w fun e w' => e = .returned (.bool (M.fine l)) ∧ Below w.heap.size w w' := by
  have HC : Aside (∀ i, i < n → w.cell? ⟨b, off + i * 3, none⟩ = some (.int .i64 (l.getD i (0, 0, 0)).1) ∧ w.cell? ⟨b, off + i * 3 + 1, none⟩ = some (.int .i64 (l.getD i (0, 0, 0)).2.1) ∧ w.cell? ⟨b, off + i * 3 + 2, none⟩ = some (.int .i64 (l.getD i (0, 0, 0)).2.2)) := hc
  have HL : Aside (l.length = n) := hl
  clear hc hl
  go_enter Tryz.func96, Tryz.ntmps96
  go_wp2
  go_loopg [3] n (fun g i wr => ∃ (k : Nat) (q : Int), k + g = n ∧ -1 ≤ q ∧ i = .int .i64 k ∧ Below w.heap.size w wr ∧ Aside (q = M.prevC l k) ∧ Aside (M.fineF q (l.drop k) = M.fine l))
  case atStart => exact ⟨0, -1, by omega, by omega, rfl, Below.refl _ _, rfl, by simp [Aside, M.fine]⟩
  case round =>
    obtain ⟨k, q, hk, hq1, rfl, hbel, A, A2⟩ := hrel
    have hsz := hbel.size
    by_cases hlt : k < n
    · obtain ⟨x, y, z, hxyz⟩ : ∃ x y z, l.getD k (0, 0, 0) = (x, y, z) := ⟨_, _, _, rfl⟩
      have c0 : wr.cell? ⟨b, off + k * 3, none⟩ = some (.int .i64 x) := by rw [hbel.cell (p := ⟨b, off + k * 3, none⟩) hB, (HC.out k hlt).1, hxyz]
      have c1 : wr.cell? ⟨b, off + k * 3 + 1, none⟩ = some (.int .i64 y) := by rw [hbel.cell (p := ⟨b, off + k * 3 + 1, none⟩) hB, (HC.out k hlt).2.1, hxyz]
      have c2 : wr.cell? ⟨b, off + k * 3 + 2, none⟩ = some (.int .i64 z) := by rw [hbel.cell (p := ⟨b, off + k * 3 + 2, none⟩) hB, (HC.out k hlt).2.2, hxyz]
      have HXY : Aside (l.getD k (0, 0, 0) = (x, y, z)) := hxyz
      have bad : Aside ((x ≤ q ∨ 99 < x ∨ y < -1 ∨ 996 < y ∨ z < -1 ∨ 996 < z ∨ y = z) → M.fine l = false) := fun h => A2.out.symm.trans (M.fineF_bad q l k (by rw [HL.out]; exact hlt) x y z hxyz h)
      have good : Aside ((q < x ∧ x ≤ 99 ∧ -1 ≤ y ∧ y ≤ 996 ∧ -1 ≤ z ∧ z ≤ 996 ∧ y ≠ z) → M.fineF x (l.drop (k + 1)) = M.fine l) := fun h => by rw [← A2.out, M.fineF_good q l k (by rw [HL.out]; exact hlt) x y z hxyz h]
      clear hxyz
      have hki : (k : Int) < (n : Int) := by omega
      by_cases g1 : 0 ≤ x ∧ x ≤ 99
      · obtain ⟨g1, g2⟩ := g1
        by_cases g3 : -1 ≤ y ∧ y ≤ 996
        · obtain ⟨g3, g4⟩ := g3
          by_cases g5 : -1 ≤ z ∧ z ≤ 996
          · obtain ⟨g5, g6⟩ := g5
            by_cases g7 : y = z
            · have hg7 : (y == z) = true := by simp [g7]
              have G : Hid (M.fine l = false) := bad.out (by omega)
              clear g7
              go_wp2_with fail
              go_quiet ((first | (go_at_call 46; exact Calls.quiet_of_same (isKey_yes _ _ g1 g2)) | (go_at_call 45; exact Calls.quiet_of_same (within_yes _ _ _ _ g3 g4)) | (go_at_call 45; exact Calls.quiet_of_same (within_yes _ _ _ _ g5 g6))))
              go_wp2
              go_ret
              exact ⟨ret_bool G.out.symm, below_drewN hbel _⟩
            · have hg7 : (y == z) = false := by simp [g7]
              have G7 : Hid (y ≠ z) := g7
              clear g7
              by_cases h0 : k = 0
              · have hg : decide (0 < k) = false := by simp; omega
                have hq : q = -1 := by have e := A.out; rw [h0] at e; exact e
                have G : Aside (M.fineF x (l.drop (k + 1)) = M.fine l) := good.out ⟨by omega, g2, g3, g4, g5, g6, G7.out⟩
                clear h0 hq
                go_wp2_with fail
                go_quiet ((first | (go_at_call 46; exact Calls.quiet_of_same (isKey_yes _ _ g1 g2)) | (go_at_call 45; exact Calls.quiet_of_same (within_yes _ _ _ _ g3 g4)) | (go_at_call 45; exact Calls.quiet_of_same (within_yes _ _ _ _ g5 g6))))
                go_wp2
                go_roundg (gk - 1)
                case measure => omega
                case rel => exact ⟨k + 1, x, by omega, by omega, by go_num, below_drewN hbel _, by show x = (l.getD _ (0, 0, 0)).1; rw [HXY.out], G⟩
              · obtain ⟨j, rfl⟩ : ∃ j, k = j + 1 := ⟨k - 1, by omega⟩
                have cj : wr.cell? ⟨b, off + j * 3, none⟩ = some (.int .i64 (l.getD j (0, 0, 0)).1) := by rw [hbel.cell (p := ⟨b, off + j * 3, none⟩) hB, (HC.out j (by omega)).1]
                obtain ⟨p, hp⟩ : ∃ p, p = (l.getD j (0, 0, 0)).1 := ⟨_, rfl⟩
                rw [← hp] at cj
                have hqp : q = p := by have e := A.out; rw [hp]; exact e
                clear hp h0
                by_cases h5 : x ≤ p
                · have G : Hid (M.fine l = false) := bad.out (by omega)
                  clear hqp
                  go_wp2_with fail
                  go_quiet ((first | (go_at_call 46; exact Calls.quiet_of_same (isKey_yes _ _ g1 g2)) | (go_at_call 45; exact Calls.quiet_of_same (within_yes _ _ _ _ g3 g4)) | (go_at_call 45; exact Calls.quiet_of_same (within_yes _ _ _ _ g5 g6))))
                  go_wp2
                  go_ret
                  exact ⟨ret_bool G.out.symm, below_drewN hbel _⟩
                · have hg : decide (x ≤ p) = false := by simp; omega
                  have G : Aside (M.fineF x (l.drop (j + 1 + 1)) = M.fine l) := good.out ⟨by omega, g2, g3, g4, g5, g6, G7.out⟩
                  clear hqp
                  go_wp2_with fail
                  go_quiet ((first | (go_at_call 46; exact Calls.quiet_of_same (isKey_yes _ _ g1 g2)) | (go_at_call 45; exact Calls.quiet_of_same (within_yes _ _ _ _ g3 g4)) | (go_at_call 45; exact Calls.quiet_of_same (within_yes _ _ _ _ g5 g6))))
                  go_wp2
                  go_roundg (gk - 1)
                  case measure => omega
                  case rel => exact ⟨j + 1 + 1, x, by omega, by omega, by go_num, below_drewN hbel _, by show x = (l.getD _ (0, 0, 0)).1; rw [HXY.out], G⟩
          · have g5' : z < -1 ∨ 996 < z := by omega
            have G : Hid (M.fine l = false) := bad.out (by omega)
            have H5 : Hid (z < -1 ∨ 996 < z) := g5'
            clear g5 g5'
            go_wp2_with fail
            go_quiet ((first | (go_at_call 46; exact Calls.quiet_of_same (isKey_yes _ _ g1 g2)) | (go_at_call 45; exact Calls.quiet_of_same (within_yes _ _ _ _ g3 g4)) | (go_at_call 45; exact Calls.quiet_of_same (within_no _ _ _ _ H5.out))))
            go_wp2
            go_ret
            exact ⟨ret_bool G.out.symm, below_drewN hbel _⟩
        · have g3' : y < -1 ∨ 996 < y := by omega
          have G : Hid (M.fine l = false) := bad.out (by omega)
          have H3 : Hid (y < -1 ∨ 996 < y) := g3'
          clear g3 g3'
          go_wp2_with fail
          go_quiet ((first | (go_at_call 46; exact Calls.quiet_of_same (isKey_yes _ _ g1 g2)) | (go_at_call 45; exact Calls.quiet_of_same (within_no _ _ _ _ H3.out))))
          go_wp2
          go_ret
          exact ⟨ret_bool G.out.symm, below_drewN hbel _⟩
      · have g1' : x < 0 ∨ 99 < x := by omega
        have G : Hid (M.fine l = false) := bad.out (by omega)
        have H1 : Hid (x < 0 ∨ 99 < x) := g1'
        clear g1 g1'
        go_wp2_with fail
        go_quiet ((go_at_call 46; exact Calls.quiet_of_same (isKey_no _ _ H1.out)))
        go_wp2
        go_ret
        exact ⟨ret_bool G.out.symm, below_drewN hbel _⟩
    · have G : Hid (M.fine l = true) := A2.out.symm.trans (M.fineF_end q l k (by rw [HL.out]; omega))
      go_wp2
      go_ret
      exact ⟨ret_bool G.out.symm, hbel⟩
theorem cfine_any (a : Option Addr) (n cap : Nat) (l : List M.Chg) (w : World) (h : Rc w a n l) (hm : n ≤ 9223372036854775807) :
    Calls Tryz.prog 96 #[.slice a n cap] w fun e w' => e = .returned (.bool (M.fine l)) ∧ Below w.heap.size w w' := by
  rcases h.cases with ⟨rfl, rfl⟩ | ⟨b, off, rfl, hn, hl, hB, hc⟩
  · refine (cfine_none a cap w).mono ?_
    rintro e w' ⟨rfl, rfl⟩
    exact ⟨rfl, Below.refl _ _⟩
  · exact cfine_some b off n cap l w hm hl hB hc
end Go.Proofs.YtcgpgflnihjpiagGreat
namespace Go.Proofs.YtcgpgflnihjpiagGreat
namespace M
theorem tab_step (f : Int → Int) (d : List Chg) (i : Nat) (h : i < d.length) (x y z : Int) (e : d.getD i (0, 0, 0) = (x, y, z)) (k : Int) : tab f (d.take (i + 1)) k = if k = x then z else tab f (d.take i) k := by
  rw [List.take_succ_eq_append_getElem h, tab_snoc]
  have e2 : d[i] = (x, y, z) := by rw [← e]; simp [List.getD, h]
  rw [e2]
theorem clash_step (l : List (Int × Int)) (d : List Chg) (i : Nat) (h : i < d.length) (x y z : Int) (e : d.getD i (0, 0, 0) = (x, y, z)) (hc : clashF l (d.take i) = false) (he : find x l = y) : clashF l (d.take (i + 1)) = false := by
  rw [List.take_succ_eq_append_getElem h]
  have e2 : d[i] = (x, y, z) := by rw [← e]; simp [List.getD, h]
  unfold clashF at hc ⊢
  rw [List.any_append, hc, e2]
  simp [he]
theorem clash_at (l : List (Int × Int)) (d : List Chg) (i : Nat) (h : i < d.length) (x y z : Int) (e : d.getD i (0, 0, 0) = (x, y, z)) (he : find x l ≠ y) : clashF l d = true := by
  unfold clashF
  rw [List.any_eq_true]
  refine ⟨(x, y, z), by rw [← e]; exact gmem d i h, by simpa using he⟩
theorem tab_fresh (f : Int → Int) (d : List Chg) (hf : Fine (-1) d) (i : Nat) (h : i < d.length) (x y z : Int) (e : d.getD i (0, 0, 0) = (x, y, z)) : tab f (d.take i) x = f x := by
  refine tab_none _ _ _ fun c hc hcx => ?_
  obtain ⟨j, hj, ej⟩ := List.mem_iff_getElem.1 hc
  rw [List.length_take] at hj
  have hji : j < i := by omega
  rw [List.getElem_take] at ej
  have hp := List.pairwise_iff_getElem.1 hf.2 j i (by omega) h hji
  have e2 : d[i] = (x, y, z) := by rw [← e]; simp [List.getD, h]
  rw [ej, e2] at hp
  have : c.1 < x := hp
  omega
end M
open Go.RowKit
theorem all_one (cs : Array Value) (f : Nat → Int) (h : cs.size = 100) (hc : ∀ i : Nat, i < 100 → cs[i]? = some (.int .i64 (f i))) : cs.all (·.oneCell') = true := by
  refine Array.all_eq_true_iff_forall_mem.2 fun v hv => ?_
  obtain ⟨j, hj, e⟩ := Array.mem_iff_getElem.1 hv
  have h2 := hc j (by rw [← h]; exact hj)
  rw [Array.getElem?_eq_getElem hj, e] at h2
  cases h2
  rfl
set_option maxRecDepth 100000 in
set_option maxHeartbeats 8000000 in
theorem patchOf_good (a : Option Addr) (n cap : Nat) (l : List (Int × Int)) (a2 : Option Addr) (m mcap : Nat) (d : List M.Chg) (w : World) (h : Rd w a n l) (hrc : Rc w a2 m d) (h0 : M.chk l = 0) (hf : M.fine d = true) :
    Calls Tryz.prog 97 #[.slice a n cap, .slice a2 m mcap] w fun e w' => HandsO w w' (M.patchV l d) (M.patchE l d) e := by
  obtain ⟨Z, hZ, hz⟩ := zeroTable
  have hn40 : n ≤ 40 := by rw [← h.1]; exact ((M.chk_zero l).1 h0).1
  have HFi : Hid (M.Fine (-1) d) := (M.fine_iff d).1 hf
  have hm100 : m ≤ 100 := by have := HFi.out.len (by omega); have h1 := hrc.1; omega
  have H := error_any a n cap l w h (by omega)
  rw [h0] at H
  have HH : Hid (Calls Tryz.prog 16 #[.slice a n cap] w fun e w' => e = .returned (.int .i64 0) ∧ Below w.heap.size w w') := H
  have HR : Hid (Rd w a n l) := h
  have HD : Hid (Rc w a2 m d) := hrc
  have HE : Hid (M.patchE l d = if M.clashF l d = true then 7 else if 40 < (M.ofTab (M.tab (fun k => M.find k l) d)).length then 2 else 0) := by unfold Hid M.patchE; rw [h0, hf]; simp
  have HFn : Hid (M.fine d = true) := hf
  clear H h h0 hrc hf
  go_enter Tryz.func97, Tryz.ntmps97
  go_wp2_with fail
  refine HH.out.mono ?_
  rintro e w1 ⟨rfl, b1⟩
  have K := cfine_any a2 m mcap d w1 (HD.out.below b1 (Nat.le_refl _)) (by omega)
  rw [HFn.out] at K
  have KK : Hid (Calls Tryz.prog 96 #[.slice a2 m mcap] w1 fun e w' => e = .returned (.bool true) ∧ Below w1.heap.size w1 w') := K
  clear K
  go_wp2_with fail
  refine KK.out.mono ?_
  rintro e w1b ⟨rfl, b1b⟩
  have c1 := below2 b1 b1b
  clear KK b1 b1b
  go_wp2_with fail
  refine (spread_any a n cap l _ (HR.out.below c1 (Nat.le_refl _)) hn40).mono ?_
  rintro e w2 ⟨cs, rfl, hcs, hcf, b2⟩
  have q2 := below2 c1 b2
  have hs2 := q2.size
  have HCs : Aside (cs.size = 100) := hcs
  have HCf : Aside (∀ i : Nat, i < 100 → cs[i]? = some (.int .i64 (M.find i l))) := hcf
  clear hcs hcf c1 b2
  obtain ⟨S, hS⟩ : ∃ S, S = w2.heap.size := ⟨_, rfl⟩
  obtain ⟨W3, hW3⟩ : ∃ W3, W3 = (w2.alloc (.cells Z 170)).setRow S cs := ⟨_, rfl⟩
  have hrow3 : Aside (W3.heap[S]? = some (.cells cs 170 (0, 0))) := by unfold Aside; rw [hW3, hS]; exact setRow_heap _ _ Z cs _ _ (heap_alloc_new w2 _)
  have b3 : Below w2.heap.size w2 W3 := by rw [hW3, hS]; exact below_setRow ((Below.refl _ _).alloc (Nat.le_refl _) _) (Nat.le_refl _) cs
  have q3 := below2 q2 b3
  have hwS : w.heap.size ≤ S := by rw [hS]; exact hs2
  have HW3 : Hid (W3 = (w2.alloc (.cells Z 170)).setRow S cs) := hW3
  have HS : Hid (S = w2.heap.size) := hS
  have HZ0 : Hid (Z.size = 100) := hZ
  have hone : Hid (cs.all (·.oneCell') = true) := all_one cs _ HCs.out HCf.out
  clear hW3 hS hZ b3 q2 hs2
  go_wp2_with (refine wpList_store_row rfl 170 _ _ rfl w2.heap.size cs rfl rfl 170 Z (heap_alloc_new w2 _) (by rw [HCs.out]; exact infoTable) (by rw [HCs.out]; exact HZ0.out) hone.out ?_; rw [← HS.out, ← HW3.out])
  go_loopg [8] m (fun g ix wr => ∃ (i : Nat) (ys : Array Value), i + g = m ∧ ix = .int .i64 i ∧ Aside (wr.heap[S]? = some (.cells ys 170 (0, 0))) ∧ Aside (ys.size = 100) ∧ Aside (∀ k : Nat, k < 100 → ys[k]? = some (.int .i64 (M.tab (fun k => M.find k l) (d.take i) k))) ∧ Aside (M.clashF l (d.take i) = false) ∧ Below w.heap.size w wr)
  case atStart => exact ⟨0, cs, by omega, rfl, hrow3, HCs, fun k hk => HCf.out k hk, rfl, q3⟩
  case round =>
    obtain ⟨i, ys, hig, rfl, RY, HYs, HYf, HCl, hbel⟩ := hrel
    by_cases hlt : i < m
    · have hii : (i : Int) < (m : Int) := by omega
      have hid : i < d.length := by rw [HD.out.1]; exact hlt
      obtain ⟨b, off, rfl, hB, hc⟩ : ∃ b off, a2 = some ⟨b, off, none⟩ ∧ b < w.heap.size ∧ ∀ i, i < m → w.cell? ⟨b, off + i * 3, none⟩ = some (.int .i64 (d.getD i (0, 0, 0)).1) ∧ w.cell? ⟨b, off + i * 3 + 1, none⟩ = some (.int .i64 (d.getD i (0, 0, 0)).2.1) ∧ w.cell? ⟨b, off + i * 3 + 2, none⟩ = some (.int .i64 (d.getD i (0, 0, 0)).2.2) := by
        rcases HD.out.cases with ⟨h0, _⟩ | ⟨b, off, e, _, _, hB, hc⟩
        · omega
        · exact ⟨b, off, e, hB, hc⟩
      obtain ⟨x, y, z, hxyz⟩ : ∃ x y z, d.getD i (0, 0, 0) = (x, y, z) := ⟨_, _, _, rfl⟩
      have hx := HFi.out.1 _ (M.gmem d i hid)
      rw [hxyz] at hx
      obtain ⟨kx, rfl⟩ : ∃ kx : Nat, x = (kx : Int) := ⟨x.toNat, by have : -1 < x := hx.1; omega⟩
      have hkx : kx < 100 := by have : (kx : Int) ≤ 99 := hx.2.1; omega
      have hkxi : (kx : Int) < 100 := by omega
      obtain ⟨k1, k2, k3⟩ := hc i hlt
      rw [hxyz] at k1 k2 k3
      have p0 : wr.cell? ⟨b, off + i * 3, none⟩ = some (.int .i64 (kx : Int)) := (hbel.cell (p := ⟨b, off + i * 3, none⟩) hB).trans k1
      have p1 : wr.cell? ⟨b, off + i * 3 + 1, none⟩ = some (.int .i64 y) := (hbel.cell (p := ⟨b, off + i * 3 + 1, none⟩) hB).trans k2
      have p2 : wr.cell? ⟨b, off + i * 3 + 2, none⟩ = some (.int .i64 z) := (hbel.cell (p := ⟨b, off + i * 3 + 2, none⟩) hB).trans k3
      obtain ⟨u, hu⟩ : ∃ u, u = M.find (kx : Int) l := ⟨_, rfl⟩
      have cY : wr.cell? ⟨S, kx, none⟩ = some (.int .i64 u) := by rw [cell_of_row wr _ kx ys _ _ RY.out, HYf.out kx hkx, M.tab_fresh _ d HFi.out i hid _ y z hxyz, hu]
      have fY : wr.frozen? ⟨S, kx, none⟩ = false := frozen_of_row wr _ kx ys _ RY.out
      have hbS : b ≠ S := by omega
      have HX : Hid (d.getD i (0, 0, 0) = ((kx : Int), y, z)) := hxyz
      by_cases hy : u = y
      · have hyb : (u != y) = false := by simp [hy]
        have HCl2 : Aside (M.clashF l (d.take (i + 1)) = false) := M.clash_step l d i hid _ y z hxyz HCl.out (hu.symm.trans hy)
        have HYs' : Aside ((ys.setIfInBounds kx (.int .i64 z)).size = 100) := by simpa [Aside] using HYs.out
        have HYf' : Aside (∀ k : Nat, k < 100 → (ys.setIfInBounds kx (.int .i64 z))[k]? = some (.int .i64 (M.tab (fun k => M.find k l) (d.take (i + 1)) k))) := fun k hk => by
          rw [set_get ys kx k _ (by rw [HYs.out]; exact hkx), M.tab_step _ d i hid _ y z hxyz]
          by_cases e : kx = k
          · subst e; rw [if_pos rfl, if_pos rfl]
          · rw [if_neg e, if_neg (by omega)]; exact HYf.out k hk
        have RY2 : Hid (∀ W : World, W.heap = wr.heap → (W.setCell ⟨S, kx, none⟩ (.int .i64 z)).heap[S]? = some (.cells (ys.setIfInBounds kx (.int .i64 z)) 170 (0, 0))) := fun W hW => heap_setCell_same W _ kx ys _ _ (by rw [hW]; exact RY.out)
        clear hy hu hxyz hx hc k1 k2 k3
        go_wp2_with fail
        go_quiet (fail)
        go_wp2_with fail
        go_region
        go_wp2
        go_roundg (gk - 1)
        case measure => omega
        case rel => exact ⟨i + 1, _, by omega, by go_num, RY2.out _ rfl, HYs', HYf', HCl2, (below_drewN hbel _).setCell (p := ⟨S, kx, none⟩) hwS _⟩
      · have hyb : (u != y) = true := by simp [hy]
        have e1 : M.patchE l d = 7 := by rw [HE.out, if_pos (M.clash_at l d i hid _ y z hxyz (by rw [← hu]; exact hy))]
        have F : Hid (∀ W, Below w.heap.size w W → HandsO w W (M.patchV l d) (M.patchE l d) (.returned (.tuple #[.slice none 0 0, .int .i64 7]))) := fun W hW => by unfold M.patchV; rw [e1, if_neg (by omega)]; exact HandsO.err 7 hW
        clear hy hu hxyz hx hc k1 k2 k3 e1
        go_wp2_with fail
        go_quiet (fail)
        go_wp2
        go_ret2
        exact F.out _ (below_drewN hbel _)
    · have e1 : d.take i = d := List.take_of_length_le (by rw [HD.out.1]; omega)
      have HYf2 := HYf.out
      have HCl2 := HCl.out
      rw [e1] at HYf2 HCl2
      have HFo := folded_any ys (fun k : Nat => M.tab (fun k => M.find k l) d (k : Int)) wr HYf2
      have HFF : Hid (Calls Tryz.prog 127 #[.agg ys] wr fun e w' => ∃ v, e = .returned v ∧ Own w' (wr.heap.size + 1) v (M.ofTab (M.tab (fun k => M.find k l) d)) ∧ Below wr.heap.size wr w') := HFo
      have HCl3 : Hid (M.clashF l d = false) := HCl2
      clear e1 HYf2 HCl2 HFo
      go_wp2_with (refine wpList_load_row rfl 170 _ rfl S rfl 170 ys _ _ RY.out Tryz.underlying170 rfl (by rw [HYs.out]; exact infoTable) ?_)
      refine HFF.out.mono ?_
      rintro e w8 ⟨v, rfl, ho8, hb8⟩
      obtain ⟨ra, rc, rfl, hr8, hn8, hc8, hz8⟩ := ho8.rd
      obtain ⟨rn, hrn⟩ : ∃ rn, rn = (M.ofTab (M.tab (fun k => M.find k l) d)).length := ⟨_, rfl⟩
      rw [← hrn] at hr8 hn8 hz8 ⊢
      have b8 : Below w.heap.size w w8 := hbel.trans (hb8.mono hbel.size)
      have hrm : rn ≤ 9223372036854775807 := by unfold maxLen at hc8; omega
      have hown : Own w8 w.heap.size (.slice ra rn rc) (M.ofTab (M.tab (fun k => M.find k l) d)) := by rw [hrn]; exact Own.lower ho8 (by have := hbel.size; omega)
      by_cases h40 : 40 < rn
      · have e0 : M.patchE l d = 2 := by rw [HE.out, if_neg (by rw [HCl3.out]; simp), if_pos (by rw [← hrn]; exact h40)]
        have F : Hid (HandsO w w8 (M.patchV l d) (M.patchE l d) (.returned (.tuple #[.slice none 0 0, .int .i64 2]))) := by
          unfold M.patchV
          rw [e0, if_neg (by omega)]
          exact HandsO.err 2 b8
        clear e0 hr8 hz8 hb8 ho8 hrn HFF hown
        go_wp2
        go_ret2
        exact F.out
      · have e0 : M.patchE l d = 0 := by rw [HE.out, if_neg (by rw [HCl3.out]; simp), if_neg (by rw [← hrn]; exact h40)]
        have F : Hid (HandsO w w8 (M.patchV l d) (M.patchE l d) (.returned (.tuple #[.slice ra rn rc, .int .i64 0]))) := by
          unfold M.patchV
          rw [e0, if_pos rfl]
          exact ⟨ra, rn, rc, rfl, hr8, hn8, hc8, ⟨hz8, hown⟩, b8⟩
        clear e0 hr8 hz8 hb8 ho8 hrn HFF hown
        go_wp2
        go_ret2
        exact F.out
set_option maxHeartbeats 4000000 in
theorem patchOf_own (a : Option Addr) (n cap : Nat) (l : List (Int × Int)) (a2 : Option Addr) (m mcap : Nat) (d : List M.Chg) (w : World) (h : Rd w a n l) (hn : n ≤ 9223372036854775807) (hrc : Rc w a2 m d) (hm : m ≤ 9223372036854775807) :
    Calls Tryz.prog 97 #[.slice a n cap, .slice a2 m mcap] w fun e w' => HandsO w w' (M.patchV l d) (M.patchE l d) e := by
  by_cases h0 : M.chk l = 0
  · by_cases hf : M.fine d = true
    · exact patchOf_good a n cap l a2 m mcap d w h hrc h0 hf
    · have hf2 : M.fine d = false := by simpa using hf
      have e1 : M.patchE l d = 1 := by unfold M.patchE; rw [h0, hf2]; simp
      have e2 : M.patchV l d = [] := by unfold M.patchV; rw [e1]; simp
      rw [e1, e2]
      have H := error_any a n cap l w h hn
      rw [h0] at H
      have HH : Hid (Calls Tryz.prog 16 #[.slice a n cap] w fun e w' => e = .returned (.int .i64 0) ∧ Below w.heap.size w w') := H
      have HD : Hid (Rc w a2 m d) := hrc
      have HF : Hid (M.fine d = false) := hf2
      clear H h h0 hrc hf hf2 e1 e2
      go_enter Tryz.func97, Tryz.ntmps97
      go_wp2_with fail
      refine HH.out.mono ?_
      rintro e w1 ⟨rfl, b1⟩
      have K := cfine_any a2 m mcap d w1 (HD.out.below b1 (Nat.le_refl _)) hm
      rw [HF.out] at K
      have KK : Hid (Calls Tryz.prog 96 #[.slice a2 m mcap] w1 fun e w' => e = .returned (.bool false) ∧ Below w1.heap.size w1 w') := K
      clear K
      go_wp2_with fail
      refine KK.out.mono ?_
      rintro e w2 ⟨rfl, b2⟩
      have c2 := below2 b1 b2
      go_wp2
      go_ret2
      exact HandsO.err 1 c2
  · have e1 : M.patchE l d = M.chk l := by unfold M.patchE; rw [if_pos h0]
    have e2 : M.patchV l d = [] := by unfold M.patchV; rw [e1, if_neg h0]
    rw [e1, e2]
    obtain ⟨E, hE⟩ : ∃ E, E = M.chk l := ⟨_, rfl⟩
    have H := error_any a n cap l w h hn
    rw [← hE] at H h0 ⊢
    have hEb : (E != 0) = true := by simp [h0]
    have HH : Hid (Calls Tryz.prog 16 #[.slice a n cap] w fun e w' => e = .returned (.int .i64 E) ∧ Below w.heap.size w w') := H
    clear H h h0 hrc e1 e2 hE
    go_enter Tryz.func97, Tryz.ntmps97
    go_wp2_with fail
    refine HH.out.mono ?_
    rintro e w1 ⟨rfl, b1⟩
    go_wp2
    go_ret2
    exact HandsO.err E b1
end Go.Proofs.YtcgpgflnihjpiagGreat
namespace Go.Proofs.YtcgpgflnihjpiagGreat
open Go.RowKit Go.Shelf Go.Maps
theorem M.wpE_at {C : List M.Com} {H : List M.Hd} {s : ByteArray} {d : List M.Chg} (hz : M.hchk C H s = 0) :
    (M.fine d = false → M.wpE C H s d = 1) ∧ (M.fine d = true → d.length = 0 → M.wpE C H s d = 9) ∧ (M.fine d = true → d.length ≠ 0 → C.length = 14 → M.wpE C H s d = 2) ∧ (M.fine d = true → d.length ≠ 0 → C.length ≠ 14 → M.wpE C H s d = M.patchE (C.getD (M.hat C H s).toNat ([], [])).1 d) := by
  have h14 := (M.dchk_zero (M.rchk_zero (M.hchk_zero hz).1).1).1
  unfold M.wpE
  refine ⟨fun h => ?_, fun h1 h2 => ?_, fun h1 h2 h3 => ?_, fun h1 h2 h3 => ?_⟩
  · simp [hz, h]
  · simp [hz, h1, h2]
  · simp [hz, h1, h2, h3]
  · have : ¬ 14 ≤ C.length := by omega
    simp [hz, h1, h2, this]
set_option maxRecDepth 100000 in
set_option maxHeartbeats 16000000 in
theorem putTo_any (a : Option Addr) (n cap : Nat) (C : List M.Com) (a2 : Option Addr) (n2 cap2 : Nat) (H : List M.Hd) (s : ByteArray) (a3 : Option Addr) (m3 cap3 : Nat) (d : List M.Chg) (w : World) (hV : RepoV w a n cap C a2 n2 cap2 H) (hrc : Rc w a3 m3 d) (hm3 : m3 ≤ 9223372036854775807) :
    Calls Tryz.prog 50 #[.agg #[.slice a n cap, .slice a2 n2 cap2], .string s, .slice a3 m3 cap3] w fun e w' => ∃ v, e = .returned (.tuple #[v, .int .i64 (M.wpE C H s d)]) ∧ RepoOwn w' w.heap.size v (M.wpC C H s d) (M.wpH C H s d) ∧ Below w.heap.size w w' := by
  obtain ⟨p, hp⟩ : ∃ p, p = w.heap.size := ⟨_, rfl⟩
  obtain ⟨R, hR⟩ : ∃ R, R = p + 1 := ⟨_, rfl⟩
  have I0 := InBox.new w a n cap C a2 n2 cap2 H hV.cm hV.hs
  obtain ⟨W, hW⟩ : ∃ W, W = (w.alloc (.cells #[.slice a n cap, .slice a2 n2 cap2] 35)).alloc (.cells #[.slice none 0 0, .slice none 0 0] 35) := ⟨_, rfl⟩
  have hb0 : Below (w.alloc (.cells #[.slice a n cap, .slice a2 n2 cap2] 35)).heap.size (w.alloc (.cells #[.slice a n cap, .slice a2 n2 cap2] 35)) W := by rw [hW]; exact (Below.refl _ _).alloc (Nat.le_refl _) _
  have I1 := I0.below hb0
  rw [← hp] at I1
  have hb : Below w.heap.size w W := by rw [hW]; exact ((Below.refl _ _).alloc (Nat.le_refl _) _).alloc (by simp) _
  have hsz : W.heap.size = R + 1 := by rw [hW, hR, hp]; simp
  have q2 : W.heap[R]? = some (.cells #[.slice none 0 0, .slice none 0 0] 35 (0, 0)) := by
    rw [hW, show R = (w.alloc (.cells #[.slice a n cap, .slice a2 n2 cap2] 35)).heap.size by rw [hR, hp]; simp]
    exact heap_alloc_new _ _
  have HI : Hid (InBox W p a n cap C a2 n2 cap2 H) := I1
  have HVW : Hid (RepoV W a n cap C a2 n2 cap2 H) := hV.later hb
  have HRc : Hid (Rc W a3 m3 d) := hrc.below hb (Nat.le_refl _)
  have c0 := I1.c0
  have c1 := I1.c1
  obtain ⟨z, hz⟩ : ∃ z, z = M.hchk C H s := ⟨_, rfl⟩
  obtain ⟨x, hx⟩ : ∃ x, x = M.hat C H s := ⟨_, rfl⟩
  have K0 := headOf_any a n cap C a2 n2 cap2 H s W I1.cm hV.nm I1.hs hV.hm
  rw [← hz, ← hx] at K0
  have KH : Hid (Calls Tryz.prog 95 #[.agg #[.slice a n cap, .slice a2 n2 cap2], .string s] W fun e w' => e = .returned (.tuple #[.int .i64 x, .int .i64 z]) ∧ Below W.heap.size W w') := K0
  have HZ : Aside (z = M.hchk C H s) := hz
  have HX : Aside (x = M.hat C H s) := hx
  have HQ2 : Hid (W.heap[R]? = some (.cells #[.slice none 0 0, .slice none 0 0] 35 (0, 0))) := q2
  have HW : Hid (W = (w.alloc (.cells #[.slice a n cap, .slice a2 n2 cap2] 35)).alloc (.cells #[.slice none 0 0, .slice none 0 0] 35)) := hW
  have HP : Aside (p = w.heap.size) := hp
  have HR : Aside (R = p + 1) := hR
  have HPR : Aside (w.heap.size ≤ p) := by unfold Aside; omega
  have HSz : Aside (W.heap.size = R + 1) := hsz
  have hpR : p < R := by omega
  have hdl : d.length = m3 := hrc.1
  have HDl : Aside (d.length = m3) := hdl
  have hnC : C.length = n := hV.cm.1
  have HNC : Aside (C.length = n) := hnC
  have hnm := hV.nm
  clear hW hp hR hV hrc hb0 I0 I1 K0 hz hx q2 hsz hdl hnC
  go_enter Tryz.func50, Tryz.ntmps50
  go_wp2_with fail
  rw [← HW.out, ← HP.out, ← HR.out]
  go_wp2_with fail
  refine KH.out.mono ?_
  rintro e w1 ⟨rfl, b1⟩
  have hb1 : Below w.heap.size w w1 := hb.trans (b1.mono hb.size)
  have hs1 := b1.size
  have hRl : R < w1.heap.size := by have := HSz.out; omega
  have r1 : w1.heap[R]? = some (.cells #[.slice none 0 0, .slice none 0 0] 35 (0, 0)) := (b1.block R (by have := HSz.out; omega)).trans HQ2.out
  have J1 := HI.out.below b1
  have d0 := J1.c0
  have d1 := J1.c1
  by_cases hz0 : z = 0
  · subst hz0
    have hZ0 : M.hchk C H s = 0 := HZ.out.symm
    have hr0 := (M.hchk_zero hZ0).1
    obtain ⟨t, ht⟩ : ∃ t, t = M.fine d := ⟨_, rfl⟩
    have K1 := cfine_any a3 m3 cap3 d w1 (HRc.out.below b1 (Nat.le_refl _)) hm3
    rw [← ht] at K1
    have KF : Hid (Calls Tryz.prog 96 #[.slice a3 m3 cap3] w1 fun e w' => e = .returned (.bool t) ∧ Below w1.heap.size w1 w') := K1
    have HT : Aside (t = M.fine d) := ht
    have HZ0 : Hid (M.hchk C H s = 0) := hZ0
    clear K1 ht hZ0 c0 c1 J1 KH
    go_wp2_with fail
    refine KF.out.mono ?_
    rintro e w2 ⟨rfl, b2⟩
    have hb2 : Below w.heap.size w w2 := hb1.trans (b2.mono hb1.size)
    have r2 : w2.heap[R]? = some (.cells #[.slice none 0 0, .slice none 0 0] 35 (0, 0)) := (b2.block R hRl).trans r1
    have hRl2 : R < w2.heap.size := (Array.getElem?_eq_some_iff.1 r2).1
    have bW2 : Below W.heap.size W w2 := b1.trans (b2.mono b1.size)
    have J2 := HI.out.below bW2
    have e0 := J2.c0
    have e1 := J2.c1
    have HJ2 : Hid (InBox w2 p a n cap C a2 n2 cap2 H) := J2
    clear d0 d1 b2 KF J2 r1
    cases t with
    | false =>
      have E : Aside (M.wpE C H s d = 1) := (M.wpE_at HZ0.out).1 HT.out.symm
      have EC : Aside (M.wpC C H s d = [] ∧ M.wpH C H s d = []) := ⟨by unfold M.wpC; rw [if_neg (by rw [E.out]; decide)], by unfold M.wpH; rw [if_neg (by rw [E.out]; decide)]⟩
      obtain ⟨g1, g2, g3⟩ := res_set r2 (.slice none 0 0) (.slice none 0 0)
      obtain ⟨X, hX⟩ : ∃ X, X = (w2.setCell ⟨R, 0, none⟩ (.slice none 0 0)).setCell ⟨R, 1, none⟩ (.slice none 0 0) := ⟨_, rfl⟩
      rw [← hX] at g1
      have bX : Below w.heap.size w X := by rw [hX]; exact (hb2.setCell (p := ⟨R, 0, none⟩) (by show _ ≤ R; have := HPR.out; omega) _).setCell (p := ⟨R, 1, none⟩) (by show _ ≤ R; have := HPR.out; omega) _
      have gX := g1
      have HX9 : Hid (X = (w2.setCell ⟨R, 0, none⟩ (.slice none 0 0)).setCell ⟨R, 1, none⟩ (.slice none 0 0)) := hX
      have HX0 : Aside (X.cell? ⟨R, 0, none⟩ = some (.slice none 0 0)) := by unfold Aside; rw [cell_of_row _ _ _ _ _ _ gX]; rfl
      have HX1 : Aside (X.cell? ⟨R, 1, none⟩ = some (.slice none 0 0)) := by unfold Aside; rw [cell_of_row _ _ _ _ _ _ gX]; rfl
      have x0 : w2.cell? ⟨R, 0, none⟩ = some (.slice none 0 0) := by rw [cell_of_row _ _ _ _ _ _ r2]; rfl
      have x1 : w2.cell? ⟨R, 1, none⟩ = some (.slice none 0 0) := by rw [cell_of_row _ _ _ _ _ _ r2]; rfl
      have f0 : w2.frozen? ⟨R, 0, none⟩ = false := frozen_of_row _ _ _ _ _ r2
      have f1 : w2.frozen? ⟨R, 1, none⟩ = false := frozen_of_row _ _ _ _ _ r2
      clear g1 g2 g3 hX gX r2
      go_wp2
      rw [← HX9.out]
      have y0 := HX0.out
      have y1 := HX1.out
      refine bodyPost_ret (v := .tuple #[.agg #[.slice none 0 0, .slice none 0 0], .int .i64 1]) (by simp [results, Tryz.results50, go_sem, y0, y1]) rfl ?_
      refine ⟨_, ret_two' E.out.symm, ?_, bX⟩
      rw [EC.out.1, EC.out.2]; exact RepoOwn.none _ _
    | true =>
      by_cases hm0 : m3 = 0
      · have E : Aside (M.wpE C H s d = 9) := (M.wpE_at HZ0.out).2.1 HT.out.symm (by rw [HDl.out]; exact hm0)
        have EC : Aside (M.wpC C H s d = [] ∧ M.wpH C H s d = []) := ⟨by unfold M.wpC; rw [if_neg (by rw [E.out]; decide)], by unfold M.wpH; rw [if_neg (by rw [E.out]; decide)]⟩
        have hmb : ((m3 : Int) == 0) = true := by simp [hm0]
        clear hm0
        obtain ⟨g1, g2, g3⟩ := res_set r2 (.slice none 0 0) (.slice none 0 0)
        obtain ⟨X, hX⟩ : ∃ X, X = (w2.setCell ⟨R, 0, none⟩ (.slice none 0 0)).setCell ⟨R, 1, none⟩ (.slice none 0 0) := ⟨_, rfl⟩
        rw [← hX] at g1
        have bX : Below w.heap.size w X := by rw [hX]; exact (hb2.setCell (p := ⟨R, 0, none⟩) (by show _ ≤ R; have := HPR.out; omega) _).setCell (p := ⟨R, 1, none⟩) (by show _ ≤ R; have := HPR.out; omega) _
        have gX := g1
        have HX9 : Hid (X = (w2.setCell ⟨R, 0, none⟩ (.slice none 0 0)).setCell ⟨R, 1, none⟩ (.slice none 0 0)) := hX
        have HX0 : Aside (X.cell? ⟨R, 0, none⟩ = some (.slice none 0 0)) := by unfold Aside; rw [cell_of_row _ _ _ _ _ _ gX]; rfl
        have HX1 : Aside (X.cell? ⟨R, 1, none⟩ = some (.slice none 0 0)) := by unfold Aside; rw [cell_of_row _ _ _ _ _ _ gX]; rfl
        have x0 : w2.cell? ⟨R, 0, none⟩ = some (.slice none 0 0) := by rw [cell_of_row _ _ _ _ _ _ r2]; rfl
        have x1 : w2.cell? ⟨R, 1, none⟩ = some (.slice none 0 0) := by rw [cell_of_row _ _ _ _ _ _ r2]; rfl
        have f0 : w2.frozen? ⟨R, 0, none⟩ = false := frozen_of_row _ _ _ _ _ r2
        have f1 : w2.frozen? ⟨R, 1, none⟩ = false := frozen_of_row _ _ _ _ _ r2
        clear g1 g2 g3 hX gX r2
        go_wp2
        rw [← HX9.out]
        have y0 := HX0.out
        have y1 := HX1.out
        refine bodyPost_ret (v := .tuple #[.agg #[.slice none 0 0, .slice none 0 0], .int .i64 9]) (by simp [results, Tryz.results50, go_sem, y0, y1]) rfl ?_
        refine ⟨_, ret_two' E.out.symm, ?_, bX⟩
        rw [EC.out.1, EC.out.2]; exact RepoOwn.none _ _
      · have hmb : ((m3 : Int) == 0) = false := by simp [hm0]
        have HM0 : Aside (d.length ≠ 0) := by unfold Aside; rw [HDl.out]; exact hm0
        clear hm0
        by_cases h14 : n = 14
        · have E : Aside (M.wpE C H s d = 2) := (M.wpE_at HZ0.out).2.2.1 HT.out.symm HM0.out (by rw [HNC.out]; exact h14)
          have EC : Aside (M.wpC C H s d = [] ∧ M.wpH C H s d = []) := ⟨by unfold M.wpC; rw [if_neg (by rw [E.out]; decide)], by unfold M.wpH; rw [if_neg (by rw [E.out]; decide)]⟩
          have h14b : ((n : Int) == 14) = true := by simp [h14]
          clear h14
          obtain ⟨g1, g2, g3⟩ := res_set r2 (.slice none 0 0) (.slice none 0 0)
          obtain ⟨X, hX⟩ : ∃ X, X = (w2.setCell ⟨R, 0, none⟩ (.slice none 0 0)).setCell ⟨R, 1, none⟩ (.slice none 0 0) := ⟨_, rfl⟩
          rw [← hX] at g1
          have bX : Below w.heap.size w X := by rw [hX]; exact (hb2.setCell (p := ⟨R, 0, none⟩) (by show _ ≤ R; have := HPR.out; omega) _).setCell (p := ⟨R, 1, none⟩) (by show _ ≤ R; have := HPR.out; omega) _
          have gX := g1
          have HX9 : Hid (X = (w2.setCell ⟨R, 0, none⟩ (.slice none 0 0)).setCell ⟨R, 1, none⟩ (.slice none 0 0)) := hX
          have HX0 : Aside (X.cell? ⟨R, 0, none⟩ = some (.slice none 0 0)) := by unfold Aside; rw [cell_of_row _ _ _ _ _ _ gX]; rfl
          have HX1 : Aside (X.cell? ⟨R, 1, none⟩ = some (.slice none 0 0)) := by unfold Aside; rw [cell_of_row _ _ _ _ _ _ gX]; rfl
          have x0 : w2.cell? ⟨R, 0, none⟩ = some (.slice none 0 0) := by rw [cell_of_row _ _ _ _ _ _ r2]; rfl
          have x1 : w2.cell? ⟨R, 1, none⟩ = some (.slice none 0 0) := by rw [cell_of_row _ _ _ _ _ _ r2]; rfl
          have f0 : w2.frozen? ⟨R, 0, none⟩ = false := frozen_of_row _ _ _ _ _ r2
          have f1 : w2.frozen? ⟨R, 1, none⟩ = false := frozen_of_row _ _ _ _ _ r2
          clear g1 g2 g3 hX gX r2
          go_wp2
          rw [← HX9.out]
          have y0 := HX0.out
          have y1 := HX1.out
          refine bodyPost_ret (v := .tuple #[.agg #[.slice none 0 0, .slice none 0 0], .int .i64 2]) (by simp [results, Tryz.results50, go_sem, y0, y1]) rfl ?_
          refine ⟨_, ret_two' E.out.symm, ?_, bX⟩
          rw [EC.out.1, EC.out.2]; exact RepoOwn.none _ _
        · have h14b : ((n : Int) == 14) = false := by simp; omega
          have HEp : Aside (M.wpE C H s d = M.patchE (C.getD (M.hat C H s).toNat ([], [])).1 d) := (M.wpE_at HZ0.out).2.2.2 HT.out.symm HM0.out (by rw [HNC.out]; exact h14)
          have hin := M.hat_in HZ0.out
          rw [← HX.out, HNC.out] at hin
          obtain ⟨xn, rfl⟩ : ∃ xn : Nat, x = (xn : Int) := ⟨x.toNat, by omega⟩
          have hxn : xn < n := by omega
          have hxe : (M.hat C H s).toNat = xn := by rw [← HX.out]; rfl
          rw [hxe] at HEp
          obtain ⟨b, off, rfl, hbw2, ra, rn, rc, pa, pn, pc, t0, t1, s0, s1, m0, m1⟩ := HJ2.out.cm.nth hxn
          obtain ⟨l, hl⟩ : ∃ l, l = (C.getD xn ([], [])).1 := ⟨_, rfl⟩
          rw [← hl] at s0 HEp
          have K3 := patchOf_own ra rn rc l a3 m3 cap3 d w2 s0 m0 (HRc.out.below bW2 (Nat.le_refl _)) hm3
          obtain ⟨E, hE⟩ : ∃ E, E = M.patchE l d := ⟨_, rfl⟩
          rw [← hE] at K3 HEp
          have KP : Hid (Calls Tryz.prog 97 #[.slice ra rn rc, .slice a3 m3 cap3] w2 fun e w' => HandsO w2 w' (M.patchV l d) E e) := K3
          have HE : Aside (E = M.patchE l d) := hE
          have HL : Aside (l = (C.getD xn ([], [])).1) := hl
          have hxi : (xn : Int) < (n : Int) := by omega
          have HXe : Aside (M.hat C H s = (xn : Int)) := HX.out.symm
          clear K3 hE hl h14 hin hxe s0 s1
          go_wp2_with fail
          refine KP.out.mono ?_
          rintro e w3 ⟨la, ln, lc, rfl, lr, lle, lmx, ⟨lnil, lo⟩, b3⟩
          have hb3 : Below w.heap.size w w3 := hb2.trans (b3.mono hb2.size)
          have r3 : w3.heap[R]? = some (.cells #[.slice none 0 0, .slice none 0 0] 35 (0, 0)) := (b3.block R hRl2).trans r2
          have hRl3 : R < w3.heap.size := (Array.getElem?_eq_some_iff.1 r3).1
          have bW3 : Below W.heap.size W w3 := bW2.trans (b3.mono bW2.size)
          have J3 := HI.out.below bW3
          have g0 := J3.c0
          have g1 := J3.c1
          by_cases hE0 : E = 0
          · subst hE0
            have E0 : Aside (M.wpE C H s d = 0) := HEp
            have hlp : 0 ≤ M.plc H s := (M.hchk_zero HZ0.out).2
            have hll := M.plc_lt H s
            obtain ⟨kk, hkk⟩ : ∃ kk : Nat, M.plc H s = (kk : Int) := ⟨(M.plc H s).toNat, by omega⟩
            have hkl : kk < H.length := by omega
            have HLen : Aside ((M.patchV l d).length ≤ 1000000) := by have := M.patchV_len (l := l) (d := d) HE.out.symm; unfold Aside; omega
            have EC : Aside (M.wpC C H s d = C ++ [(M.patchV l d, [(xn : Int)])] ∧ M.wpH C H s d = M.setH H kk C.length) := by
              obtain ⟨_, _, _, _, _, f1, f2⟩ := M.put_parts E0.out
              exact ⟨by rw [f1, HXe.out, HL.out]; rfl, by rw [f2, hkk]; rfl⟩
            have HSV : Hid (∀ V, Below w3.heap.size w3 V → V.cell? ⟨p, 0, none⟩ = some (.slice (some ⟨b, off, none⟩) n cap) ∧ V.cell? ⟨p, 1, none⟩ = some (.slice a2 n2 cap2)) := fun V hV => ⟨(hV.cell (p := ⟨p, 0, none⟩) (by show p < _; omega)).trans g0, (hV.cell (p := ⟨p, 1, none⟩) (by show p < _; omega)).trans g1⟩
            have KA : Hid (∀ V, Below w3.heap.size w3 V → Calls Tryz.prog 99 #[.agg #[.slice (some ⟨b, off, none⟩) n cap, .slice a2 n2 cap2], .string s] V fun e w' => e = .returned (.int .i64 (kk : Int)) ∧ Below V.heap.size V w') := fun V hV => by
              rw [← hkk]
              have q := (HVW.out.later bW3).later hV
              exact headAt_any _ n cap C a2 n2 cap2 H s V q.cm q.hs q.hm
            have KG : Hid (∀ V vv, Below w3.heap.size w3 V → OwnI V w3.heap.size (.slice (some ⟨vv, 0, none⟩) 1 1) [(xn : Int)] → Calls Tryz.prog 98 #[.agg #[.slice (some ⟨b, off, none⟩) n cap, .slice a2 n2 cap2], .int .i64 (kk : Int), .slice la ln lc, .slice (some ⟨vv, 0, none⟩) 1 1] V fun e w' => ∃ v, e = .returned v ∧ RepoOwn w' w2.heap.size v (C ++ [(M.patchV l d, [(xn : Int)])]) (M.setH H kk C.length) ∧ Below V.heap.size V w') := fun V vv hV hI =>
              grown_any _ n cap C a2 n2 cap2 H kk la _ ln lc 1 1 (M.patchV l d, [(xn : Int)]) w2.heap.size V ((HVW.out.later bW3).later hV) hr0 hkl (Nat.le_trans b3.size hV.size) ⟨ownsRow_later lo hV, ownsRow_lower hI b3.size, HLen.out, by simp⟩
            have HBd : Hid (Below w3.heap.size w3 w3.drew) := (Below.refl _ _).drew
            have hw23 := b3.size
            have HS2 : Hid (w.heap.size ≤ w2.heap.size) := hb2.size
            clear lr lo lnil KP HEp hkk hll J3 g0 g1 r2
            go_wp2_with fail
            refine wp_region_till 9 (fun V => V.cell? ⟨p, 0, none⟩ = some (.slice (some ⟨b, off, none⟩) n cap) ∧ V.cell? ⟨p, 1, none⟩ = some (.slice a2 n2 cap2)) (by kernel_rfl) (HSV.out _ HBd.out) (fun hHeld => ?_)
            refine till_take 0 (v := .agg #[.slice (some ⟨b, off, none⟩) n cap, .slice a2 n2 cap2]) rfl (by decide) (by kernel_rfl) (by kernel_rfl) (by kernel_rfl) (by kernel_rfl) (by kernel_rfl) (fun _ _ _ h => h) (Or.inl ⟨by rfl, fun V hV => (by obtain ⟨v0, v1⟩ := hV; go_simp)⟩) hHeld ?_
            try simp only [Act.put]
            refine till_take 1 (v := .agg #[.slice (some ⟨b, off, none⟩) n cap, .slice a2 n2 cap2]) rfl (by decide) (by kernel_rfl) (by kernel_rfl) (by kernel_rfl) (by kernel_rfl) (by kernel_rfl) (fun _ _ _ h => h) (Or.inl ⟨by rfl, fun V hV => (by obtain ⟨v0, v1⟩ := hV; go_simp)⟩) hHeld ?_
            try simp only [Act.put]
            refine till_go 2 (v := .string s) rfl (by decide) (by kernel_rfl) (by kernel_rfl) (by kernel_rfl) (fun _ _ _ h => h) (Or.inl ⟨by rfl, fun V _ => (by go_simp)⟩) hHeld ?_
            try simp only [Act.put]
            refine till_go 4 (v := .slice la ln lc) rfl (by decide) (by kernel_rfl) (by kernel_rfl) (by kernel_rfl) (fun _ _ _ h => h) (Or.inl ⟨by rfl, fun V _ => (by go_simp)⟩) hHeld ?_
            try simp only [Act.put]
            refine till_go 5 (v := .int .i64 (xn : Int)) rfl (by decide) (by kernel_rfl) (by kernel_rfl) (by kernel_rfl) (fun _ _ _ h => h) (Or.inl ⟨by rfl, fun V _ => (by go_simp)⟩) hHeld ?_
            try simp only [Act.put]
            refine till_two 3 6 rfl rfl (by decide) (by decide) (by kernel_rfl) (fun K hK => ?hA) (fun K hK => ?hB)
            case' hA =>
              go_simp
              go_wp2_with (go_at_call 99; refine (KA.out _ HBd.out).mono ?_; rintro e w4 ⟨rfl, b4⟩)
              have c4 : Below w3.heap.size w3 w4 := HBd.out.trans b4
              refine hK.out _ _ (HSV.out _ c4) (fun hHeld => ?_)
              clear hK K b4
              refine till_step 6 rfl (by decide) (by kernel_rfl) (fun K hK => ?_)
              go_simp
              have c5 : Hid (Below w3.heap.size w3 (w4.alloc (.cells #[.int .i64 (xn : Int)] 3))) := c4.alloc c4.size _
              have oi5 : Hid (OwnI (w4.alloc (.cells #[.int .i64 (xn : Int)] 3)) w3.heap.size (.slice (some ⟨w4.heap.size, 0, none⟩) 1 1) [(xn : Int)]) := ownI_one w4 _ _ c4.size
              refine hK.out _ _ (HSV.out _ c5.out) (fun hHeld => ?_)
              clear hK K c4
            case' hB =>
              go_simp
              have c4 : Below w3.heap.size w3 (w3.alloc (.cells #[.int .i64 (xn : Int)] 3)).drew := ((Below.refl _ _).alloc (Nat.le_refl _) _).drew
              refine hK.out _ _ (HSV.out _ c4) (fun hHeld => ?_)
              clear hK K
              refine till_step 3 rfl (by decide) (by kernel_rfl) (fun K hK => ?_)
              go_simp
              go_wp2_with (go_at_call 99; refine (KA.out _ c4).mono ?_; rintro e w4 ⟨rfl, b4⟩)
              have c5 : Hid (Below w3.heap.size w3 w4) := c4.trans (b4.mono c4.size)
              have oi5 : Hid (OwnI w4 w3.heap.size (.slice (some ⟨w3.heap.size, 0, none⟩) 1 1) [(xn : Int)]) := ownsRow_later (ownsRow_later (ownI_one w3 _ _ (Nat.le_refl _)) ((Below.refl _ _).drew)) b4
              refine hK.out _ _ (HSV.out _ c5.out) (fun hHeld => ?_)
              clear hK K c4 b4
            all_goals
              refine till_step 7 rfl (by decide) (by kernel_rfl) (fun K hK => ?_)
              go_simp
              go_wp2_with (go_at_call 98; refine (KG.out _ _ c5.out oi5.out).mono ?_; rintro e w6 ⟨v6, rfl, o6, b6⟩)
              have c6 : Below w3.heap.size w3 w6 := c5.out.trans (b6.mono c5.out.size)
              have hb6 : Below w.heap.size w w6 := hb3.trans (c6.mono hb3.size)
              have r6 : w6.heap[R]? = some (.cells #[.slice none 0 0, .slice none 0 0] 35 (0, 0)) := (c6.block R hRl3).trans r3
              obtain ⟨xa8, xc8, ya8, yc8, rfl, _⟩ := o6.v
              generalize hln : (C ++ [(M.patchV l d, [(xn : Int)])]).length = ln8 at *
              generalize hlh : (M.setH H kk C.length).length = lh8 at *
              obtain ⟨q1, q2, hqq, o61, o62⟩ := o6
              obtain ⟨rfl, rfl⟩ : q1 = .slice xa8 ln8 xc8 ∧ q2 = .slice ya8 lh8 yc8 := by simp at hqq; exact ⟨hqq.1.symm, hqq.2.symm⟩
              have HRO : Aside (RepoOwn ((w6.setCell ⟨R, 0, none⟩ (.slice xa8 ln8 xc8)).setCell ⟨R, 1, none⟩ (.slice ya8 lh8 yc8)) w.heap.size (.agg #[.slice xa8 ln8 xc8, .slice ya8 lh8 yc8]) (M.wpC C H s d) (M.wpH C H s d)) := by unfold Aside; rw [EC.out.1, EC.out.2]; exact (repoOwn_set r6 o61 o62).lower HS2.out
              obtain ⟨g1, g2, g3⟩ := res_set r6 (.slice xa8 ln8 xc8) (.slice ya8 lh8 yc8)
              obtain ⟨X, hX⟩ : ∃ X, X = (w6.setCell ⟨R, 0, none⟩ (.slice xa8 ln8 xc8)).setCell ⟨R, 1, none⟩ (.slice ya8 lh8 yc8) := ⟨_, rfl⟩
              have sX := HSV.out w6 c6
              have sX2 : X.cell? ⟨p, 0, none⟩ = some (.slice (some ⟨b, off, none⟩) n cap) ∧ X.cell? ⟨p, 1, none⟩ = some (.slice a2 n2 cap2) := by
                rw [hX]
                exact ⟨(World.cell?_of_block (a := ⟨p, 0, none⟩) (g2 p (by omega))).trans sX.1, (World.cell?_of_block (a := ⟨p, 1, none⟩) (g2 p (by omega))).trans sX.2⟩
              rw [← hX] at g1 HRO
              have bX : Below w.heap.size w X := by rw [hX]; exact (hb6.setCell (p := ⟨R, 0, none⟩) (by show _ ≤ R; have := HPR.out; omega) _).setCell (p := ⟨R, 1, none⟩) (by show _ ≤ R; have := HPR.out; omega) _
              have HX9 : Hid (X = (w6.setCell ⟨R, 0, none⟩ (.slice xa8 ln8 xc8)).setCell ⟨R, 1, none⟩ (.slice ya8 lh8 yc8)) := hX
              have HX0 : Aside (X.cell? ⟨R, 0, none⟩ = some (.slice xa8 ln8 xc8)) := by unfold Aside; rw [cell_of_row _ _ _ _ _ _ g1]; rfl
              have HX1 : Aside (X.cell? ⟨R, 1, none⟩ = some (.slice ya8 lh8 yc8)) := by unfold Aside; rw [cell_of_row _ _ _ _ _ _ g1]; rfl
              have HSX : Hid (X.cell? ⟨p, 0, none⟩ = some (.slice (some ⟨b, off, none⟩) n cap) ∧ X.cell? ⟨p, 1, none⟩ = some (.slice a2 n2 cap2)) := sX2
              have HS6 : Hid (w6.cell? ⟨p, 0, none⟩ = some (.slice (some ⟨b, off, none⟩) n cap) ∧ w6.cell? ⟨p, 1, none⟩ = some (.slice a2 n2 cap2)) := sX
              have x0 : w6.cell? ⟨R, 0, none⟩ = some (.slice none 0 0) := by rw [cell_of_row _ _ _ _ _ _ r6]; rfl
              have x1 : w6.cell? ⟨R, 1, none⟩ = some (.slice none 0 0) := by rw [cell_of_row _ _ _ _ _ _ r6]; rfl
              have f0 : w6.frozen? ⟨R, 0, none⟩ = false := frozen_of_row _ _ _ _ _ r6
              have f1 : w6.frozen? ⟨R, 1, none⟩ = false := frozen_of_row _ _ _ _ _ r6
              clear g1 g2 g3 hX r6 o61 o62 hqq hln hlh sX sX2 b6 c6
              refine hK.out _ _ HS6.out (fun hHeld => ?_)
              clear hK K
              refine till_step 8 rfl (by decide) (by kernel_rfl) (fun K hK => ?_)
              go_simp
              rw [← HX9.out]
              refine hK.out _ _ HSX.out (fun hHeld => ?_)
              clear hK K
              refine till_last rfl (by kernel_rfl) (by kernel_rfl) (fun K hK => ?_) _
              go_simp
              refine hK.out _ _ ?_
              clear hK K
              go_wp2
              have y0 := HX0.out
              have y1 := HX1.out
              refine bodyPost_ret (v := .tuple #[.agg #[.slice xa8 ln8 xc8, .slice ya8 lh8 yc8], .int .i64 0]) (by simp [results, Tryz.results50, go_sem, y0, y1]) rfl ?_
              exact ⟨_, ret_two' E0.out.symm, HRO.out, bX⟩
          · have hEb : (E != 0) = true := by simp [hE0]
            have EE : Aside (M.wpE C H s d = E) := HEp
            have EC : Aside (M.wpC C H s d = [] ∧ M.wpH C H s d = []) := ⟨by unfold M.wpC; rw [if_neg (by rw [EE.out]; exact hE0)], by unfold M.wpH; rw [if_neg (by rw [EE.out]; exact hE0)]⟩
            clear lr lo lnil KP HEp hE0 J3 g0 g1 r2
            obtain ⟨g1, g2, g3⟩ := res_set r3 (.slice none 0 0) (.slice none 0 0)
            obtain ⟨X, hX⟩ : ∃ X, X = (w3.setCell ⟨R, 0, none⟩ (.slice none 0 0)).setCell ⟨R, 1, none⟩ (.slice none 0 0) := ⟨_, rfl⟩
            rw [← hX] at g1
            have bX : Below w.heap.size w X := by rw [hX]; exact (hb3.setCell (p := ⟨R, 0, none⟩) (by show _ ≤ R; have := HPR.out; omega) _).setCell (p := ⟨R, 1, none⟩) (by show _ ≤ R; have := HPR.out; omega) _
            have gX := g1
            have HX9 : Hid (X = (w3.setCell ⟨R, 0, none⟩ (.slice none 0 0)).setCell ⟨R, 1, none⟩ (.slice none 0 0)) := hX
            have HX0 : Aside (X.cell? ⟨R, 0, none⟩ = some (.slice none 0 0)) := by unfold Aside; rw [cell_of_row _ _ _ _ _ _ gX]; rfl
            have HX1 : Aside (X.cell? ⟨R, 1, none⟩ = some (.slice none 0 0)) := by unfold Aside; rw [cell_of_row _ _ _ _ _ _ gX]; rfl
            have x0 : w3.cell? ⟨R, 0, none⟩ = some (.slice none 0 0) := by rw [cell_of_row _ _ _ _ _ _ r3]; rfl
            have x1 : w3.cell? ⟨R, 1, none⟩ = some (.slice none 0 0) := by rw [cell_of_row _ _ _ _ _ _ r3]; rfl
            have f0 : w3.frozen? ⟨R, 0, none⟩ = false := frozen_of_row _ _ _ _ _ r3
            have f1 : w3.frozen? ⟨R, 1, none⟩ = false := frozen_of_row _ _ _ _ _ r3
            clear g1 g2 g3 hX gX r3
            go_wp2
            rw [← HX9.out]
            have y0 := HX0.out
            have y1 := HX1.out
            refine bodyPost_ret (v := .tuple #[.agg #[.slice none 0 0, .slice none 0 0], .int .i64 E]) (by simp [results, Tryz.results50, go_sem, y0, y1]) rfl ?_
            refine ⟨_, ret_two' EE.out.symm, ?_, bX⟩
            rw [EC.out.1, EC.out.2]; exact RepoOwn.none _ _
  · have hzb : (z != 0) = true := by simp [hz0]
    have EE : Aside (M.wpE C H s d = z) := by unfold Aside M.wpE; rw [← HZ.out, if_pos hz0]
    have EC : Aside (M.wpC C H s d = [] ∧ M.wpH C H s d = []) := ⟨by unfold M.wpC; rw [if_neg (by rw [EE.out]; exact hz0)], by unfold M.wpH; rw [if_neg (by rw [EE.out]; exact hz0)]⟩
    clear hz0 J1 d0 d1 c0 c1 KH
    obtain ⟨g1, g2, g3⟩ := res_set r1 (.slice none 0 0) (.slice none 0 0)
    obtain ⟨X, hX⟩ : ∃ X, X = (w1.setCell ⟨R, 0, none⟩ (.slice none 0 0)).setCell ⟨R, 1, none⟩ (.slice none 0 0) := ⟨_, rfl⟩
    rw [← hX] at g1
    have bX : Below w.heap.size w X := by rw [hX]; exact (hb1.setCell (p := ⟨R, 0, none⟩) (by show _ ≤ R; have := HPR.out; omega) _).setCell (p := ⟨R, 1, none⟩) (by show _ ≤ R; have := HPR.out; omega) _
    have gX := g1
    have HX9 : Hid (X = (w1.setCell ⟨R, 0, none⟩ (.slice none 0 0)).setCell ⟨R, 1, none⟩ (.slice none 0 0)) := hX
    have HX0 : Aside (X.cell? ⟨R, 0, none⟩ = some (.slice none 0 0)) := by unfold Aside; rw [cell_of_row _ _ _ _ _ _ gX]; rfl
    have HX1 : Aside (X.cell? ⟨R, 1, none⟩ = some (.slice none 0 0)) := by unfold Aside; rw [cell_of_row _ _ _ _ _ _ gX]; rfl
    have x0 : w1.cell? ⟨R, 0, none⟩ = some (.slice none 0 0) := by rw [cell_of_row _ _ _ _ _ _ r1]; rfl
    have x1 : w1.cell? ⟨R, 1, none⟩ = some (.slice none 0 0) := by rw [cell_of_row _ _ _ _ _ _ r1]; rfl
    have f0 : w1.frozen? ⟨R, 0, none⟩ = false := frozen_of_row _ _ _ _ _ r1
    have f1 : w1.frozen? ⟨R, 1, none⟩ = false := frozen_of_row _ _ _ _ _ r1
    clear g1 g2 g3 hX gX r1
    go_wp2
    rw [← HX9.out]
    have y0 := HX0.out
    have y1 := HX1.out
    refine bodyPost_ret (v := .tuple #[.agg #[.slice none 0 0, .slice none 0 0], .int .i64 z]) (by simp [results, Tryz.results50, go_sem, y0, y1]) rfl ?_
    refine ⟨_, ret_two' EE.out.symm, ?_, bX⟩
    rw [EC.out.1, EC.out.2]; exact RepoOwn.none _ _
end Go.Proofs.YtcgpgflnihjpiagGreat
