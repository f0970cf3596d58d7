/- slices.Equal and slices.EqualFunc at trees; tree.same. -/
import Derived.Test.YtcgpgflnihjpiacSameT
namespace Go.Proofs.Ytcgpgflnihjpiac
open Go.RowKit

theorem equal_len (a a2 : Option Addr) (n n2 cap cap2 : Nat) (w : World) (h : n ≠ n2) :
    Calls Try.prog 75 #[.slice a n cap, .slice a2 n2 cap2] w fun e w' => e = .returned (.bool false) ∧ w' = w := by
  have hb : ((n : Int) != (n2 : Int)) = true := by simp; omega
  go_enter Try.func75, Try.ntmps75
  go_wp2
  go_ret
  exact ⟨rfl, rfl⟩

theorem equal_none (a a2 : Option Addr) (cap cap2 : Nat) (w : World) :
    Calls Try.prog 75 #[.slice a 0 cap, .slice a2 0 cap2] w fun e w' => e = .returned (.bool true) ∧ w' = w := by
  go_enter Try.func75, Try.ntmps75
  go_wp2
  refine wp_loop_rounds 1 ?_
  rw [rounds_succ]
  go_wp2
  go_ret
  exact ⟨rfl, rfl⟩

set_option maxHeartbeats 2000000 in
theorem equal_some (b off b2 off2 n cap cap2 : Nat) (l l2 : List (Int × Int)) (w : World) (hm : n ≤ 9223372036854775807) (hl : l.length = n) (hl2 : l2.length = n)
    (hc : ∀ i, i < n → w.cell? ⟨b, off + i * 2, none⟩ = some (.int .i64 (l.getD i (0, 0)).1) ∧ w.cell? ⟨b, off + i * 2 + 1, none⟩ = some (.int .i64 (l.getD i (0, 0)).2))
    (hc2 : ∀ i, i < n → w.cell? ⟨b2, off2 + i * 2, none⟩ = some (.int .i64 (l2.getD i (0, 0)).1) ∧ w.cell? ⟨b2, off2 + i * 2 + 1, none⟩ = some (.int .i64 (l2.getD i (0, 0)).2)) :
    Calls Try.prog 75 #[.slice (some ⟨b, off, none⟩) n cap, .slice (some ⟨b2, off2, none⟩) n cap2] w fun e w' => e = .returned (.bool (decide (l = l2))) ∧ ∃ m, w' = w.drewN m := by
  have HC : Aside (∀ i, i < n → w.cell? ⟨b, off + i * 2, none⟩ = some (.int .i64 (l.getD i (0, 0)).1) ∧ w.cell? ⟨b, off + i * 2 + 1, none⟩ = some (.int .i64 (l.getD i (0, 0)).2)) := hc
  have HC2 : Aside (∀ i, i < n → w.cell? ⟨b2, off2 + i * 2, none⟩ = some (.int .i64 (l2.getD i (0, 0)).1) ∧ w.cell? ⟨b2, off2 + i * 2 + 1, none⟩ = some (.int .i64 (l2.getD i (0, 0)).2)) := hc2
  have HL : Aside (l.length = n) := hl
  have HL2 : Aside (l2.length = n) := hl2
  clear hc hl hc2 hl2
  go_enter Try.func75, Try.ntmps75
  go_wp2
  go_loopg [13] n (fun g i wr => ∃ k m : Nat, k + g = n ∧ i = .int .i64 k ∧ wr = w.drewN m ∧ Aside (l.drop k = l2.drop k ↔ l = l2))
  case atStart => exact ⟨0, 0, by omega, rfl, rfl, by simp [Aside]⟩
  case round =>
    obtain ⟨k, m, hk, rfl, rfl, A⟩ := hrel
    by_cases hlt : k < n
    · obtain ⟨x, y, hxy⟩ : ∃ x y, l.getD k (0, 0) = (x, y) := ⟨_, _, rfl⟩
      obtain ⟨x2, y2, hxy2⟩ : ∃ x y, l2.getD k (0, 0) = (x, y) := ⟨_, _, rfl⟩
      have c0 : w.cell? ⟨b, off + k * 2, none⟩ = some (.int .i64 x) := by rw [(HC.out k hlt).1, hxy]
      have c1 : w.cell? ⟨b, off + k * 2 + 1, none⟩ = some (.int .i64 y) := by rw [(HC.out k hlt).2, hxy]
      have d0 : w.cell? ⟨b2, off2 + k * 2, none⟩ = some (.int .i64 x2) := by rw [(HC2.out k hlt).1, hxy2]
      have d1 : w.cell? ⟨b2, off2 + k * 2 + 1, none⟩ = some (.int .i64 y2) := by rw [(HC2.out k hlt).2, hxy2]
      have ed := eq_drop l l2 k (by rw [HL.out]; exact hlt) (by rw [HL2.out]; exact hlt)
      rw [hxy, hxy2, A.out] at ed
      have ED : Aside (l = l2 ↔ (x, y) = (x2, y2) ∧ l.drop (k + 1) = l2.drop (k + 1)) := ed
      clear hxy hxy2 ed A
      have hki : (k : Int) < (n : Int) := by omega
      by_cases hx : x = x2
      · have hxb : (x == x2) = true := by simp [hx]
        by_cases hy : y = y2
        · have hyb : (y == y2) = true := by simp [hy]
          have A1 : Aside (l.drop (k + 1) = l2.drop (k + 1) ↔ l = l2) := by unfold Aside; rw [ED.out]; simp [hx, hy]
          clear hx hy
          go_wp2_with fail
          go_quiet (fail)
          go_wp2
          go_roundg (gk - 1)
          case measure => omega
          case rel => exact ⟨k + 1, m + nq, by omega, by go_num, rfl, A1⟩
        · have hyb : (y == y2) = false := by simp [hy]
          have A1 : Aside (l ≠ l2) := by unfold Aside; intro e; have h := (ED.out.1 e).1; simp [hy] at h
          clear hx hy
          go_wp2_with fail
          go_quiet (fail)
          go_wp2
          go_ret
          exact ⟨ret_no A1.out, m + nq, World.drewN_drewN _ _ _⟩
      · have hxb : (x == x2) = false := by simp [hx]
        have A1 : Aside (l ≠ l2) := by unfold Aside; intro e; have h := (ED.out.1 e).1; simp [hx] at h
        clear hx
        go_wp2_with fail
        go_quiet (fail)
        go_wp2
        go_ret
        exact ⟨ret_no A1.out, m + nq, World.drewN_drewN _ _ _⟩
    · go_wp2
      go_ret
      exact ⟨ret_yes (A.out.1 (by rw [List.drop_eq_nil_of_le (by rw [HL.out]; omega), List.drop_eq_nil_of_le (by rw [HL2.out]; omega)])), m, rfl⟩

theorem equal_any (a a2 : Option Addr) (n n2 cap cap2 : Nat) (l l2 : List (Int × Int)) (w : World) (h : Rd w a n l) (h2 : Rd w a2 n2 l2) (hm : n ≤ 9223372036854775807) :
    Calls Try.prog 75 #[.slice a n cap, .slice a2 n2 cap2] w fun e w' => e = .returned (.bool (decide (l = l2))) ∧ Below w.heap.size w w' := by
  by_cases hn : n = n2
  · subst hn
    rcases h.cases with ⟨rfl, rfl⟩ | ⟨b, off, rfl, hn, hl, hB, hc⟩
    · have e2 : l2 = [] := List.eq_nil_of_length_eq_zero h2.1
      subst e2
      refine (equal_none a a2 cap cap2 w).mono ?_
      rintro e w' ⟨rfl, rfl⟩
      exact ⟨rfl, Below.refl _ _⟩
    · rcases h2.cases with ⟨rfl, rfl⟩ | ⟨b2, off2, rfl, hn2, hl2, hB2, hc2⟩
      · omega
      · refine (equal_some b off b2 off2 n cap cap2 l l2 w hm hl hl2 hc hc2).mono ?_
        rintro e w' ⟨rfl, m, rfl⟩
        exact ⟨rfl, drewN_below w m⟩
  · refine (equal_len a a2 n n2 cap cap2 w hn).mono ?_
    rintro e w' ⟨rfl, rfl⟩
    exact ⟨ret_no (fun e => hn (by rw [← h.1, ← h2.1, e])), Below.refl _ _⟩


theorem sameChunk_any (a a2 : Option Addr) (n n2 cap cap2 : Nat) (l l2 : List (Int × Int)) (w : World) (h : Rd w a n l) (h2 : Rd w a2 n2 l2) (hm : n ≤ 9223372036854775807) :
    Calls Try.prog 90 #[.slice a n cap, .slice a2 n2 cap2] w fun e w' => e = .returned (.bool (decide (l = l2))) ∧ Below w.heap.size w w' := by
  have H := equal_any a a2 n n2 cap cap2 l l2 w h h2 hm
  obtain ⟨t, ht⟩ : ∃ t, t = decide (l = l2) := ⟨_, rfl⟩
  rw [← ht] at H ⊢
  have HH : Hid (Calls Try.prog 75 #[.slice a n cap, .slice a2 n2 cap2] w fun e w' => e = .returned (.bool t) ∧ Below w.heap.size w w') := H
  clear H h h2 ht
  go_enter Try.func90, Try.ntmps90
  go_wp2_with (go_at_call 75; refine HH.out.mono ?_; rintro e w1 ⟨rfl, b1⟩)
  go_ret
  exact ⟨rfl, b1⟩

theorem eqf1_len (a a2 : Option Addr) (n n2 cap cap2 : Nat) (w : World) (h : n ≠ n2) :
    Calls Try.prog 89 #[.slice a n cap, .slice a2 n2 cap2, .func (.func 90) #[] #[]] w fun e w' => e = .returned (.bool false) ∧ w' = w := by
  have hb : ((n : Int) != (n2 : Int)) = true := by simp; omega
  go_enter Try.func89, Try.ntmps89
  go_wp2
  go_ret
  exact ⟨rfl, rfl⟩
theorem eqf1_none (a a2 : Option Addr) (cap cap2 : Nat) (w : World) :
    Calls Try.prog 89 #[.slice a 0 cap, .slice a2 0 cap2, .func (.func 90) #[] #[]] w fun e w' => e = .returned (.bool true) ∧ w' = w := by
  go_enter Try.func89, Try.ntmps89
  go_wp2
  refine wp_loop_rounds 1 ?_
  rw [rounds_succ]
  go_wp2
  go_ret
  exact ⟨rfl, rfl⟩

set_option maxHeartbeats 4000000 in
theorem eqf1_some (b off b2 off2 n cap cap2 : Nat) (L L2 : List (List (Int × Int))) (w : World) (hm : n ≤ 9223372036854775807) (hl : L.length = n) (hl2 : L2.length = n) (hB : b < w.heap.size) (hB2 : b2 < w.heap.size)
    (hc : ∀ i, i < n → ∃ a' n' c', w.cell? ⟨b, off + i, none⟩ = some (.slice a' n' c') ∧ Sl w a' n' c' (L.getD i []))
    (hc2 : ∀ i, i < n → ∃ a' n' c', w.cell? ⟨b2, off2 + i, none⟩ = some (.slice a' n' c') ∧ Sl w a' n' c' (L2.getD i [])) :
    Calls Try.prog 89 #[.slice (some ⟨b, off, none⟩) n cap, .slice (some ⟨b2, off2, none⟩) n cap2, .func (.func 90) #[] #[]] w fun e w' => e = .returned (.bool (decide (L = L2))) ∧ Below w.heap.size w w' := by
  have HC : Aside (∀ i, i < n → ∃ a' n' c', w.cell? ⟨b, off + i, none⟩ = some (.slice a' n' c') ∧ Sl w a' n' c' (L.getD i [])) := hc
  have HC2 : Aside (∀ i, i < n → ∃ a' n' c', w.cell? ⟨b2, off2 + i, none⟩ = some (.slice a' n' c') ∧ Sl w a' n' c' (L2.getD i [])) := hc2
  have HL : Aside (L.length = n) := hl
  have HL2 : Aside (L2.length = n) := hl2
  clear hc hl hc2 hl2
  go_enter Try.func89, Try.ntmps89
  go_wp2
  go_loopg [17] n (fun g i wr => ∃ k : Nat, k + g = n ∧ i = .int .i64 k ∧ Below w.heap.size w wr ∧ Aside (L.drop k = L2.drop k ↔ L = L2))
  case atStart => exact ⟨0, by omega, rfl, Below.refl _ _, by simp [Aside]⟩
  case round =>
    obtain ⟨k, hk, rfl, hbel, A⟩ := hrel
    by_cases hlt : k < n
    · obtain ⟨a1, n1, c1, q1, s1⟩ := HC.out k hlt
      obtain ⟨a2, n2, c2, q2, s2⟩ := HC2.out k hlt
      obtain ⟨x, hx⟩ : ∃ x, x = L.getD k [] := ⟨_, rfl⟩
      obtain ⟨y, hy⟩ : ∃ y, y = L2.getD k [] := ⟨_, rfl⟩
      have ed := eq_dropL L L2 k (by rw [HL.out]; exact hlt) (by rw [HL2.out]; exact hlt)
      rw [← hx, ← hy, A.out] at ed
      rw [← hx] at s1
      rw [← hy] at s2
      have ED : Aside (L = L2 ↔ x = y ∧ L.drop (k + 1) = L2.drop (k + 1)) := ed
      have r1 : wr.cell? ⟨b, off + k, none⟩ = some (.slice a1 n1 c1) := (hbel.cell (p := ⟨b, off + k, none⟩) hB).trans q1
      have r2 : wr.cell? ⟨b2, off2 + k, none⟩ = some (.slice a2 n2 c2) := (hbel.cell (p := ⟨b2, off2 + k, none⟩) hB2).trans q2
      obtain ⟨t, ht⟩ : ∃ t, t = decide (x = y) := ⟨_, rfl⟩
      have HT : Aside (t = decide (x = y)) := ht
      have HS0 := sameChunk_any a1 a2 n1 n2 c1 c2 x y wr (s1.below hbel).1 (s2.below hbel).1 s1.len
      rw [← ht] at HS0
      have HS : Aside (Calls Try.prog 90 #[.slice a1 n1 c1, .slice a2 n2 c2] wr fun e w' => e = .returned (.bool t) ∧ Below wr.heap.size wr w') := HS0
      clear q1 q2 s1 s2 ed hx hy ht HS0
      cases t with
      | true =>
        go_wp2_with (go_at_call 90; refine HS.out.mono ?_; rintro e w5 ⟨rfl, b5⟩)
        have q5 := hbel.trans (b5.mono hbel.size)
        have hxy : x = y := of_decide_eq_true HT.out.symm
        have A1 : Aside (L.drop (k + 1) = L2.drop (k + 1) ↔ L = L2) := by unfold Aside; rw [ED.out]; simp [hxy]
        clear hxy
        go_roundg (gk - 1)
        case measure => omega
        case rel => exact ⟨k + 1, by omega, by go_num, q5, A1⟩
      | false =>
        go_wp2_with (go_at_call 90; refine HS.out.mono ?_; rintro e w5 ⟨rfl, b5⟩)
        have q5 := hbel.trans (b5.mono hbel.size)
        have A1 : Aside (L ≠ L2) := fun e => of_decide_eq_false HT.out.symm (ED.out.1 e).1
        go_ret
        exact ⟨ret_no A1.out, q5⟩
    · go_wp2
      go_ret
      exact ⟨ret_yes (A.out.1 (by rw [List.drop_eq_nil_of_le (by rw [HL.out]; omega), List.drop_eq_nil_of_le (by rw [HL2.out]; omega)])), hbel⟩

theorem eqf1_any (a a2 : Option Addr) (n n2 cap cap2 : Nat) (L L2 : List (List (Int × Int))) (w : World) (h : Lv w a n L) (h2 : Lv w a2 n2 L2) (hm : n ≤ 9223372036854775807) :
    Calls Try.prog 89 #[.slice a n cap, .slice a2 n2 cap2, .func (.func 90) #[] #[]] w fun e w' => e = .returned (.bool (decide (L = L2))) ∧ Below w.heap.size w w' := by
  by_cases hn : n = n2
  · subst hn
    obtain ⟨l1, h1⟩ := h
    obtain ⟨l2, h2⟩ := h2
    rcases h1 with rfl | ⟨b, off, rfl, hB, hc⟩
    · have e1 : L = [] := List.eq_nil_of_length_eq_zero l1
      have e2 : L2 = [] := List.eq_nil_of_length_eq_zero l2
      subst e1 e2
      refine (eqf1_none a a2 cap cap2 w).mono ?_
      rintro e w' ⟨rfl, rfl⟩
      exact ⟨rfl, Below.refl _ _⟩
    · rcases h2 with rfl | ⟨b2, off2, rfl, hB2, hc2⟩
      · have e1 : L = [] := List.eq_nil_of_length_eq_zero l1
        have e2 : L2 = [] := List.eq_nil_of_length_eq_zero l2
        subst e1 e2
        refine (eqf1_none _ a2 cap cap2 w).mono ?_
        rintro e w' ⟨rfl, rfl⟩
        exact ⟨rfl, Below.refl _ _⟩
      · exact eqf1_some b off b2 off2 n cap cap2 L L2 w hm l1 l2 hB hB2 hc hc2
  · refine (eqf1_len a a2 n n2 cap cap2 w hn).mono ?_
    rintro e w' ⟨rfl, rfl⟩
    exact ⟨ret_no (fun e => hn (by rw [← h.1, ← h2.1, e])), Below.refl _ _⟩

theorem sameLevel_any (a a2 : Option Addr) (n n2 cap cap2 : Nat) (l l2 : List (List (Int × Int))) (w : World) (h : Lv w a n l) (h2 : Lv w a2 n2 l2) (hm : n ≤ 9223372036854775807) :
    Calls Try.prog 72 #[.slice a n cap, .slice a2 n2 cap2] w fun e w' => e = .returned (.bool (decide (l = l2))) ∧ Below w.heap.size w w' := by
  have H := eqf1_any a a2 n n2 cap cap2 l l2 w h h2 hm
  obtain ⟨t, ht⟩ : ∃ t, t = decide (l = l2) := ⟨_, rfl⟩
  rw [← ht] at H ⊢
  have HH : Hid (Calls Try.prog 89 #[.slice a n cap, .slice a2 n2 cap2, .func (.func 90) #[] #[]] w fun e w' => e = .returned (.bool t) ∧ Below w.heap.size w w') := H
  clear H h h2 ht
  go_enter Try.func72, Try.ntmps72
  go_wp2_with (go_at_call 89; refine HH.out.mono ?_; rintro e w1 ⟨rfl, b1⟩)
  go_ret
  exact ⟨rfl, b1⟩

theorem eqf2_len (a a2 : Option Addr) (n n2 cap cap2 : Nat) (w : World) (h : n ≠ n2) :
    Calls Try.prog 71 #[.slice a n cap, .slice a2 n2 cap2, .func (.func 72) #[] #[]] w fun e w' => e = .returned (.bool false) ∧ w' = w := by
  have hb : ((n : Int) != (n2 : Int)) = true := by simp; omega
  go_enter Try.func71, Try.ntmps71
  go_wp2
  go_ret
  exact ⟨rfl, rfl⟩
theorem eqf2_none (a a2 : Option Addr) (cap cap2 : Nat) (w : World) :
    Calls Try.prog 71 #[.slice a 0 cap, .slice a2 0 cap2, .func (.func 72) #[] #[]] w fun e w' => e = .returned (.bool true) ∧ w' = w := by
  go_enter Try.func71, Try.ntmps71
  go_wp2
  refine wp_loop_rounds 1 ?_
  rw [rounds_succ]
  go_wp2
  go_ret
  exact ⟨rfl, rfl⟩

set_option maxHeartbeats 4000000 in
theorem eqf2_some (b off b2 off2 n cap cap2 : Nat) (L L2 : List (List (List (Int × Int)))) (w : World) (hm : n ≤ 9223372036854775807) (hl : L.length = n) (hl2 : L2.length = n) (hB : b < w.heap.size) (hB2 : b2 < w.heap.size)
    (hc : ∀ i, i < n → ∃ a' n' c', w.cell? ⟨b, off + i, none⟩ = some (.slice a' n' c') ∧ LvS w a' n' c' (L.getD i []))
    (hc2 : ∀ i, i < n → ∃ a' n' c', w.cell? ⟨b2, off2 + i, none⟩ = some (.slice a' n' c') ∧ LvS w a' n' c' (L2.getD i [])) :
    Calls Try.prog 71 #[.slice (some ⟨b, off, none⟩) n cap, .slice (some ⟨b2, off2, none⟩) n cap2, .func (.func 72) #[] #[]] w fun e w' => e = .returned (.bool (decide (L = L2))) ∧ Below w.heap.size w w' := by
  have HC : Aside (∀ i, i < n → ∃ a' n' c', w.cell? ⟨b, off + i, none⟩ = some (.slice a' n' c') ∧ LvS w a' n' c' (L.getD i [])) := hc
  have HC2 : Aside (∀ i, i < n → ∃ a' n' c', w.cell? ⟨b2, off2 + i, none⟩ = some (.slice a' n' c') ∧ LvS w a' n' c' (L2.getD i [])) := hc2
  have HL : Aside (L.length = n) := hl
  have HL2 : Aside (L2.length = n) := hl2
  clear hc hl hc2 hl2
  go_enter Try.func71, Try.ntmps71
  go_wp2
  go_loopg [17] n (fun g i wr => ∃ k : Nat, k + g = n ∧ i = .int .i64 k ∧ Below w.heap.size w wr ∧ Aside (L.drop k = L2.drop k ↔ L = L2))
  case atStart => exact ⟨0, by omega, rfl, Below.refl _ _, by simp [Aside]⟩
  case round =>
    obtain ⟨k, hk, rfl, hbel, A⟩ := hrel
    by_cases hlt : k < n
    · obtain ⟨a1, n1, c1, q1, s1⟩ := HC.out k hlt
      obtain ⟨a2, n2, c2, q2, s2⟩ := HC2.out k hlt
      obtain ⟨x, hx⟩ : ∃ x, x = L.getD k [] := ⟨_, rfl⟩
      obtain ⟨y, hy⟩ : ∃ y, y = L2.getD k [] := ⟨_, rfl⟩
      have ed := eq_dropT L L2 k (by rw [HL.out]; exact hlt) (by rw [HL2.out]; exact hlt)
      rw [← hx, ← hy, A.out] at ed
      rw [← hx] at s1
      rw [← hy] at s2
      have ED : Aside (L = L2 ↔ x = y ∧ L.drop (k + 1) = L2.drop (k + 1)) := ed
      have r1 : wr.cell? ⟨b, off + k, none⟩ = some (.slice a1 n1 c1) := (hbel.cell (p := ⟨b, off + k, none⟩) hB).trans q1
      have r2 : wr.cell? ⟨b2, off2 + k, none⟩ = some (.slice a2 n2 c2) := (hbel.cell (p := ⟨b2, off2 + k, none⟩) hB2).trans q2
      obtain ⟨t, ht⟩ : ∃ t, t = decide (x = y) := ⟨_, rfl⟩
      have HT : Aside (t = decide (x = y)) := ht
      have HS0 := sameLevel_any a1 a2 n1 n2 c1 c2 x y wr (s1.below hbel).1 (s2.below hbel).1 s1.len
      rw [← ht] at HS0
      have HS : Aside (Calls Try.prog 72 #[.slice a1 n1 c1, .slice a2 n2 c2] wr fun e w' => e = .returned (.bool t) ∧ Below wr.heap.size wr w') := HS0
      clear q1 q2 s1 s2 ed hx hy ht HS0
      cases t with
      | true =>
        go_wp2_with (go_at_call 72; refine HS.out.mono ?_; rintro e w5 ⟨rfl, b5⟩)
        have q5 := hbel.trans (b5.mono hbel.size)
        have hxy : x = y := of_decide_eq_true HT.out.symm
        have A1 : Aside (L.drop (k + 1) = L2.drop (k + 1) ↔ L = L2) := by unfold Aside; rw [ED.out]; simp [hxy]
        clear hxy
        go_roundg (gk - 1)
        case measure => omega
        case rel => exact ⟨k + 1, by omega, by go_num, q5, A1⟩
      | false =>
        go_wp2_with (go_at_call 72; refine HS.out.mono ?_; rintro e w5 ⟨rfl, b5⟩)
        have q5 := hbel.trans (b5.mono hbel.size)
        have A1 : Aside (L ≠ L2) := fun e => of_decide_eq_false HT.out.symm (ED.out.1 e).1
        go_ret
        exact ⟨ret_no A1.out, q5⟩
    · go_wp2
      go_ret
      exact ⟨ret_yes (A.out.1 (by rw [List.drop_eq_nil_of_le (by rw [HL.out]; omega), List.drop_eq_nil_of_le (by rw [HL2.out]; omega)])), hbel⟩

theorem eqf2_any (a a2 : Option Addr) (n n2 cap cap2 : Nat) (L L2 : List (List (List (Int × Int)))) (w : World) (h : Tv w a n L) (h2 : Tv w a2 n2 L2) (hm : n ≤ 9223372036854775807) :
    Calls Try.prog 71 #[.slice a n cap, .slice a2 n2 cap2, .func (.func 72) #[] #[]] w fun e w' => e = .returned (.bool (decide (L = L2))) ∧ Below w.heap.size w w' := by
  by_cases hn : n = n2
  · subst hn
    obtain ⟨l1, h1⟩ := h
    obtain ⟨l2, h2⟩ := h2
    rcases h1 with rfl | ⟨b, off, rfl, hB, hc⟩
    · have e1 : L = [] := List.eq_nil_of_length_eq_zero l1
      have e2 : L2 = [] := List.eq_nil_of_length_eq_zero l2
      subst e1 e2
      refine (eqf2_none a a2 cap cap2 w).mono ?_
      rintro e w' ⟨rfl, rfl⟩
      exact ⟨rfl, Below.refl _ _⟩
    · rcases h2 with rfl | ⟨b2, off2, rfl, hB2, hc2⟩
      · have e1 : L = [] := List.eq_nil_of_length_eq_zero l1
        have e2 : L2 = [] := List.eq_nil_of_length_eq_zero l2
        subst e1 e2
        refine (eqf2_none _ a2 cap cap2 w).mono ?_
        rintro e w' ⟨rfl, rfl⟩
        exact ⟨rfl, Below.refl _ _⟩
      · exact eqf2_some b off b2 off2 n cap cap2 L L2 w hm l1 l2 hB hB2 hc hc2
  · refine (eqf2_len a a2 n n2 cap cap2 w hn).mono ?_
    rintro e w' ⟨rfl, rfl⟩
    exact ⟨ret_no (fun e => hn (by rw [← h.1, ← h2.1, e])), Below.refl _ _⟩

theorem treeSame_any (a a2 : Option Addr) (n n2 cap cap2 : Nat) (l l2 : List (List (List (Int × Int)))) (w : World) (h : Tv w a n l) (h2 : Tv w a2 n2 l2) (hm : n ≤ 9223372036854775807) :
    Calls Try.prog 43 #[.slice a n cap, .slice a2 n2 cap2] w fun e w' => e = .returned (.bool (decide (l = l2))) ∧ Below w.heap.size w w' := by
  have H := eqf2_any a a2 n n2 cap cap2 l l2 w h h2 hm
  obtain ⟨t, ht⟩ : ∃ t, t = decide (l = l2) := ⟨_, rfl⟩
  rw [← ht] at H ⊢
  have HH : Hid (Calls Try.prog 71 #[.slice a n cap, .slice a2 n2 cap2, .func (.func 72) #[] #[]] w fun e w' => e = .returned (.bool t) ∧ Below w.heap.size w w') := H
  clear H h h2 ht
  go_enter Try.func43, Try.ntmps43
  go_wp2_with (go_at_call 71; refine HH.out.mono ?_; rintro e w1 ⟨rfl, b1⟩)
  go_ret
  exact ⟨rfl, b1⟩
end Go.Proofs.Ytcgpgflnihjpiac
