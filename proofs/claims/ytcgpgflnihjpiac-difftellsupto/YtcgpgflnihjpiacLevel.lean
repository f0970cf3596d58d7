/- SameLevel. -/
import Derived.Test.YtcgpgflnihjpiacCutA
namespace Go.Proofs.Ytcgpgflnihjpiac
open Go.RowKit

/-! ### SameLevel -/
theorem lsame_len (a a2 : Option Addr) (n n2 cap cap2 : Nat) (w : World) (h : n ≠ n2) :
    Calls Try.prog 35 #[.slice a n cap, .slice a2 n2 cap2] w fun e w' => e = .returned (.bool false) ∧ w' = w := by
  have hb : ((n : Int) != (n2 : Int)) = true := by simp; omega
  go_enter Try.func35, Try.ntmps35
  go_wp2
  go_ret
  exact ⟨rfl, rfl⟩
theorem lsame_none (a a2 : Option Addr) (cap cap2 : Nat) (w : World) :
    Calls Try.prog 35 #[.slice a 0 cap, .slice a2 0 cap2] w fun e w' => e = .returned (.bool true) ∧ w' = w := by
  go_enter Try.func35, Try.ntmps35
  go_wp2
  refine wp_loop_rounds 1 ?_
  rw [rounds_succ]
  go_wp2
  go_ret
  exact ⟨rfl, rfl⟩

theorem drop_atL (l : List (List (Int × Int))) (k : Nat) (h : k < l.length) : l.drop k = l.getD k [] :: l.drop (k + 1) := by
  rw [List.drop_eq_getElem_cons h]; simp [List.getD, h]
theorem eq_dropL (l l2 : List (List (Int × Int))) (k : Nat) (h : k < l.length) (h2 : k < l2.length) : (l.drop k = l2.drop k) ↔ l.getD k [] = l2.getD k [] ∧ l.drop (k + 1) = l2.drop (k + 1) := by
  rw [drop_atL l k h, drop_atL l2 k h2, List.cons.injEq]

set_option maxHeartbeats 4000000 in
theorem lsame_some (b off b2 off2 n cap cap2 : Nat) (L L2 : List (List (Int × Int))) (w : World) (hm : n ≤ 9223372036854775807) (hl : L.length = n) (hl2 : L2.length = n) (hB : b < w.heap.size) (hB2 : b2 < w.heap.size)
    (hc : ∀ i, i < n → ∃ a' n' c', w.cell? ⟨b, off + i, none⟩ = some (.slice a' n' c') ∧ Sl w a' n' c' (L.getD i []))
    (hc2 : ∀ i, i < n → ∃ a' n' c', w.cell? ⟨b2, off2 + i, none⟩ = some (.slice a' n' c') ∧ Sl w a' n' c' (L2.getD i [])) :
    Calls Try.prog 35 #[.slice (some ⟨b, off, none⟩) n cap, .slice (some ⟨b2, off2, none⟩) n cap2] w fun e w' => e = .returned (.bool (decide (L = L2))) ∧ Below w.heap.size w w' := by
  have HC : Aside (∀ i, i < n → ∃ a' n' c', w.cell? ⟨b, off + i, none⟩ = some (.slice a' n' c') ∧ Sl w a' n' c' (L.getD i [])) := hc
  have HC2 : Aside (∀ i, i < n → ∃ a' n' c', w.cell? ⟨b2, off2 + i, none⟩ = some (.slice a' n' c') ∧ Sl w a' n' c' (L2.getD i [])) := hc2
  have HL : Aside (L.length = n) := hl
  have HL2 : Aside (L2.length = n) := hl2
  clear hc hl hc2 hl2
  go_enter Try.func35, Try.ntmps35
  go_wp2
  go_loopg [5] n (fun g i wr => ∃ k : Nat, k + g = n ∧ i = .int .i64 k ∧ Below w.heap.size w wr ∧ Aside (L.drop k = L2.drop k ↔ L = L2))
  case atStart => exact ⟨0, by omega, rfl, Below.refl _ _, by simp [Aside]⟩
  case round =>
    obtain ⟨k, hk, rfl, hbel, A⟩ := hrel
    by_cases hlt : k < n
    · obtain ⟨a1, n1, c1, q1, s1⟩ := HC.out k hlt
      obtain ⟨a2, n2, c2, q2, s2⟩ := HC2.out k hlt
      obtain ⟨x, hx⟩ : ∃ x, x = L.getD k [] := ⟨_, rfl⟩
      obtain ⟨y, hy⟩ : ∃ y, y = L2.getD k [] := ⟨_, rfl⟩
      have ed := eq_dropL L L2 k (by rw [HL.out]; exact hlt) (by rw [HL2.out]; exact hlt)
      rw [← hx, ← hy, A.out] at ed
      rw [← hx] at s1
      rw [← hy] at s2
      have ED : Aside (L = L2 ↔ x = y ∧ L.drop (k + 1) = L2.drop (k + 1)) := ed
      have S1 : Aside (∀ W, Later wr W → W.cell? ⟨b, off + k, none⟩ = some (.slice a1 n1 c1)) := fun W hW => (hW.out.cell (p := ⟨b, off + k, none⟩) (by show b < _; have := hbel.size; omega)).trans ((hbel.cell (p := ⟨b, off + k, none⟩) hB).trans q1)
      have S2 : Aside (∀ W, Later wr W → W.cell? ⟨b2, off2 + k, none⟩ = some (.slice a2 n2 c2)) := fun W hW => (hW.out.cell (p := ⟨b2, off2 + k, none⟩) (by show b2 < _; have := hbel.size; omega)).trans ((hbel.cell (p := ⟨b2, off2 + k, none⟩) hB2).trans q2)
      obtain ⟨t, ht⟩ : ∃ t, t = decide (x = y) := ⟨_, rfl⟩
      have HT : Aside (t = decide (x = y)) := ht
      have HS : Aside (∀ W, Later wr W → Calls Try.prog 27 #[.slice a1 n1 c1, .slice a2 n2 c2] W fun e w' => e = .returned (.bool t) ∧ Later wr w') := fun W hW => by
        rw [ht]
        refine (same_any a1 a2 n1 n2 c1 c2 x y W ((s1.1.below hbel (Nat.le_refl _)).below hW.out (Nat.le_refl _)) ((s2.1.below hbel (Nat.le_refl _)).below hW.out (Nat.le_refl _)) s1.len).mono ?_
        rintro e w' ⟨rfl, hb⟩
        exact ⟨rfl, hW.out.trans (hb.mono hW.out.size)⟩
      have hki : (k : Int) < (n : Int) := by omega
      clear q1 q2 s1 s2 ed hx hy ht
      cases t with
      | true =>
        go_wp2_with fail
        refine wp_region_later (W0 := wr) (by kernel_rfl) (by kernel_rfl) (Below.refl _ _) ?_
        go_big_quiet_want
        go_big_quiet_op
        go_big_quiet_on
        go_big_quiet_want
        go_big_quiet_op
        go_big_quiet_on
        go_big_quiet_want
        refine quiet_val (.pointer (some ⟨b, off + k, none⟩)) (fun W hW => by go_simp) ?_
        go_simp
        go_big_quiet_on
        go_big_quiet_want
        refine quiet_val (.slice a1 n1 c1) (fun W hW => by have h := S1.out W hW; go_simp) ?_
        go_simp
        go_big_quiet_on
        go_big_quiet_want
        go_big_quiet_op
        go_big_quiet_on
        go_big_quiet_want
        go_big_quiet_op
        go_big_quiet_on
        go_big_quiet_want
        refine quiet_val (.pointer (some ⟨b2, off2 + k, none⟩)) (fun W hW => by go_simp) ?_
        go_simp
        go_big_quiet_on
        go_big_quiet_want
        refine quiet_val (.slice a2 n2 c2) (fun W hW => by have h := S2.out W hW; go_simp) ?_
        go_simp
        go_big_quiet_on
        go_big_quiet_want
        refine quiet_enter 27 #[.slice a1 n1 c1, .slice a2 n2 c2] (.bool true) (fun W => by go_simp) (fun W hW => HS.out W hW) ?_
        go_simp
        go_big_quiet_on
        go_big_quiet_want
        refine quiet_val (.bool false) (fun W hW => by go_simp) ?_
        go_simp
        go_big_quiet_on
        refine wpQuiet_nil ?_
        intro w5 hL
        have q5 := hbel.trans (hL.out.mono hbel.size)
        have hxy : x = y := of_decide_eq_true HT.out.symm
        have A1 : Aside (L.drop (k + 1) = L2.drop (k + 1) ↔ L = L2) := by unfold Aside; rw [ED.out]; simp [hxy]
        clear hxy
        go_wp2
        go_roundg (gk - 1)
        case measure => omega
        case rel => exact ⟨k + 1, by omega, by go_num, q5, A1⟩
      | false =>
        go_wp2_with fail
        refine wp_region_later (W0 := wr) (by kernel_rfl) (by kernel_rfl) (Below.refl _ _) ?_
        go_big_quiet_want
        go_big_quiet_op
        go_big_quiet_on
        go_big_quiet_want
        go_big_quiet_op
        go_big_quiet_on
        go_big_quiet_want
        refine quiet_val (.pointer (some ⟨b, off + k, none⟩)) (fun W hW => by go_simp) ?_
        go_simp
        go_big_quiet_on
        go_big_quiet_want
        refine quiet_val (.slice a1 n1 c1) (fun W hW => by have h := S1.out W hW; go_simp) ?_
        go_simp
        go_big_quiet_on
        go_big_quiet_want
        go_big_quiet_op
        go_big_quiet_on
        go_big_quiet_want
        go_big_quiet_op
        go_big_quiet_on
        go_big_quiet_want
        refine quiet_val (.pointer (some ⟨b2, off2 + k, none⟩)) (fun W hW => by go_simp) ?_
        go_simp
        go_big_quiet_on
        go_big_quiet_want
        refine quiet_val (.slice a2 n2 c2) (fun W hW => by have h := S2.out W hW; go_simp) ?_
        go_simp
        go_big_quiet_on
        go_big_quiet_want
        refine quiet_enter 27 #[.slice a1 n1 c1, .slice a2 n2 c2] (.bool false) (fun W => by go_simp) (fun W hW => HS.out W hW) ?_
        go_simp
        go_big_quiet_on
        go_big_quiet_want
        refine quiet_val (.bool true) (fun W hW => by go_simp) ?_
        go_simp
        go_big_quiet_on
        refine wpQuiet_nil ?_
        intro w5 hL
        have q5 := hbel.trans (hL.out.mono hbel.size)
        have A1 : Aside (L ≠ L2) := fun e => of_decide_eq_false HT.out.symm (ED.out.1 e).1
        go_wp2
        go_ret
        exact ⟨ret_no A1.out, q5⟩
    · go_wp2
      go_ret
      exact ⟨ret_yes (A.out.1 (by rw [List.drop_eq_nil_of_le (by rw [HL.out]; omega), List.drop_eq_nil_of_le (by rw [HL2.out]; omega)])), hbel⟩

theorem lsame_any (a a2 : Option Addr) (n n2 cap cap2 : Nat) (L L2 : List (List (Int × Int))) (w : World) (h : Lv w a n L) (h2 : Lv w a2 n2 L2) (hm : n ≤ 9223372036854775807) :
    Calls Try.prog 35 #[.slice a n cap, .slice a2 n2 cap2] w fun e w' => e = .returned (.bool (decide (L = L2))) ∧ Below w.heap.size w w' := by
  by_cases hn : n = n2
  · subst hn
    obtain ⟨l1, h1⟩ := h
    obtain ⟨l2, h2⟩ := h2
    rcases h1 with rfl | ⟨b, off, rfl, hB, hc⟩
    · have e1 : L = [] := List.eq_nil_of_length_eq_zero l1
      have e2 : L2 = [] := List.eq_nil_of_length_eq_zero l2
      subst e1 e2
      refine (lsame_none a a2 cap cap2 w).mono ?_
      rintro e w' ⟨rfl, rfl⟩
      exact ⟨rfl, Below.refl _ _⟩
    · rcases h2 with rfl | ⟨b2, off2, rfl, hB2, hc2⟩
      · have e1 : L = [] := List.eq_nil_of_length_eq_zero l1
        have e2 : L2 = [] := List.eq_nil_of_length_eq_zero l2
        subst e1 e2
        refine (lsame_none _ a2 cap cap2 w).mono ?_
        rintro e w' ⟨rfl, rfl⟩
        exact ⟨rfl, Below.refl _ _⟩
      · exact lsame_some b off b2 off2 n cap cap2 L L2 w hm l1 l2 hB hB2 hc hc2
  · refine (lsame_len a a2 n n2 cap cap2 w hn).mono ?_
    rintro e w' ⟨rfl, rfl⟩
    exact ⟨ret_no (fun e => hn (by rw [← h.1, ← h2.1, e])), Below.refl _ _⟩
theorem Lv.drop {w : World} {b off n : Nat} {LL : List (List (Int × Int))} (h : Lv w (some ⟨b, off, none⟩) n LL) (k : Nat) : Lv w (some ⟨b, off + k, none⟩) (n - k) (LL.drop k) := by
  obtain ⟨h1, h2⟩ := h
  refine ⟨by rw [List.length_drop]; omega, ?_⟩
  by_cases hk : n ≤ k
  · exact Or.inl (by omega)
  · rcases h2 with h2 | ⟨b', off', ha, hlt, hc⟩
    · exact Or.inl (by omega)
    · obtain ⟨rfl, rfl⟩ : b = b' ∧ off = off' := by simpa using ha
      refine Or.inr ⟨b, off + k, rfl, hlt, fun i hi => ?_⟩
      have e : (LL.drop k).getD i [] = LL.getD (k + i) [] := by simp [List.getD]
      rw [e, show off + k + i = off + (k + i) by omega]
      exact hc (k + i) (by omega)

end Go.Proofs.Ytcgpgflnihjpiac
