/- SameRows. -/
import Derived.Test.YtcgpgflnihjpiafGreatBLogReplays02
import Derived.Laws.Tables
import Derived.Laws.CopyOwn
import Derived.Test.YtcgpgflnihjpiafGreatBLogReplays01
import Derived.Maps.OwnOps
import Derived.Maps.OwnSet
import Derived.Lib.SlKeysI
namespace Go.Proofs.YtcgpgflnihjpiafGreat
open Go.RowKit

theorem same_len (a a2 : Option Addr) (n n2 cap cap2 : Nat) (w : World) (h : n ≠ n2) :
    Calls Tryz.prog 18 #[.slice a n cap, .slice a2 n2 cap2] w fun e w' => e = .returned (.bool false) ∧ w' = w := by
  have hb : ((n : Int) != (n2 : Int)) = true := by simp; omega
  go_enter Tryz.func18, Tryz.ntmps18
  go_wp2
  go_ret
  exact ⟨rfl, rfl⟩

theorem same_none (a a2 : Option Addr) (cap cap2 : Nat) (w : World) :
    Calls Tryz.prog 18 #[.slice a 0 cap, .slice a2 0 cap2] w fun e w' => e = .returned (.bool true) ∧ w' = w := by
  go_enter Tryz.func18, Tryz.ntmps18
  go_wp2
  refine wp_loop_rounds 1 ?_
  rw [rounds_succ]
  go_wp2
  go_ret
  exact ⟨rfl, rfl⟩

theorem eq_drop (l l2 : List (Int × Int)) (k : Nat) (h : k < l.length) (h2 : k < l2.length) : (l.drop k = l2.drop k) ↔ l.getD k (0, 0) = l2.getD k (0, 0) ∧ l.drop (k + 1) = l2.drop (k + 1) := by
  rw [M.drop_at l k h, M.drop_at l2 k h2, List.cons.injEq]

theorem ret_no {p : Prop} [Decidable p] (h : ¬ p) : Ending.returned (.bool false) = .returned (.bool (decide p)) := by rw [decide_eq_false h]
theorem ret_yes {p : Prop} [Decidable p] (h : p) : Ending.returned (.bool true) = .returned (.bool (decide p)) := by rw [decide_eq_true h]

set_option maxHeartbeats 2000000 in
theorem same_some (b off b2 off2 n cap cap2 : Nat) (l l2 : List (Int × Int)) (w : World) (hm : n ≤ 9223372036854775807) (hl : l.length = n) (hl2 : l2.length = n)
    (hc : ∀ i, i < n → w.cell? ⟨b, off + i * 2, none⟩ = some (.int .i64 (l.getD i (0, 0)).1) ∧ w.cell? ⟨b, off + i * 2 + 1, none⟩ = some (.int .i64 (l.getD i (0, 0)).2))
    (hc2 : ∀ i, i < n → w.cell? ⟨b2, off2 + i * 2, none⟩ = some (.int .i64 (l2.getD i (0, 0)).1) ∧ w.cell? ⟨b2, off2 + i * 2 + 1, none⟩ = some (.int .i64 (l2.getD i (0, 0)).2)) :
    Calls Tryz.prog 18 #[.slice (some ⟨b, off, none⟩) n cap, .slice (some ⟨b2, off2, none⟩) n cap2] w fun e w' => e = .returned (.bool (decide (l = l2))) ∧ ∃ m, w' = w.drewN m := by
  have HC : Aside (∀ i, i < n → w.cell? ⟨b, off + i * 2, none⟩ = some (.int .i64 (l.getD i (0, 0)).1) ∧ w.cell? ⟨b, off + i * 2 + 1, none⟩ = some (.int .i64 (l.getD i (0, 0)).2)) := hc
  have HC2 : Aside (∀ i, i < n → w.cell? ⟨b2, off2 + i * 2, none⟩ = some (.int .i64 (l2.getD i (0, 0)).1) ∧ w.cell? ⟨b2, off2 + i * 2 + 1, none⟩ = some (.int .i64 (l2.getD i (0, 0)).2)) := hc2
  have HL : Aside (l.length = n) := hl
  have HL2 : Aside (l2.length = n) := hl2
  clear hc hl hc2 hl2
  go_enter Tryz.func18, Tryz.ntmps18
  go_wp2
  go_loopg [5] n (fun g i wr => ∃ k m : Nat, k + g = n ∧ i = .int .i64 k ∧ wr = w.drewN m ∧ Aside (l.drop k = l2.drop k ↔ l = l2))
  case atStart => exact ⟨0, 0, by omega, rfl, rfl, by simp [Aside]⟩
  case round =>
    obtain ⟨k, m, hk, rfl, rfl, A⟩ := hrel
    by_cases hlt : k < n
    · obtain ⟨x, y, hxy⟩ : ∃ x y, l.getD k (0, 0) = (x, y) := ⟨_, _, rfl⟩
      obtain ⟨x2, y2, hxy2⟩ : ∃ x y, l2.getD k (0, 0) = (x, y) := ⟨_, _, rfl⟩
      have c0 : w.cell? ⟨b, off + k * 2, none⟩ = some (.int .i64 x) := by rw [(HC.out k hlt).1, hxy]
      have c1 : w.cell? ⟨b, off + k * 2 + 1, none⟩ = some (.int .i64 y) := by rw [(HC.out k hlt).2, hxy]
      have d0 : w.cell? ⟨b2, off2 + k * 2, none⟩ = some (.int .i64 x2) := by rw [(HC2.out k hlt).1, hxy2]
      have d1 : w.cell? ⟨b2, off2 + k * 2 + 1, none⟩ = some (.int .i64 y2) := by rw [(HC2.out k hlt).2, hxy2]
      have ed := eq_drop l l2 k (by rw [HL.out]; exact hlt) (by rw [HL2.out]; exact hlt)
      rw [hxy, hxy2, A.out] at ed
      have ED : Aside (l = l2 ↔ (x, y) = (x2, y2) ∧ l.drop (k + 1) = l2.drop (k + 1)) := ed
      clear hxy hxy2 ed A
      have hki : (k : Int) < (n : Int) := by omega
      by_cases hx : x = x2
      · have hxb : (x == x2) = true := by simp [hx]
        by_cases hy : y = y2
        · have hyb : (y == y2) = true := by simp [hy]
          have A1 : Aside (l.drop (k + 1) = l2.drop (k + 1) ↔ l = l2) := by unfold Aside; rw [ED.out]; simp [hx, hy]
          clear hx hy
          go_wp2_with fail
          go_quiet (fail)
          go_wp2
          go_roundg (gk - 1)
          case measure => omega
          case rel => exact ⟨k + 1, m + nq, by omega, by go_num, rfl, A1⟩
        · have hyb : (y == y2) = false := by simp [hy]
          have A1 : Aside (l ≠ l2) := by unfold Aside; intro e; have h := (ED.out.1 e).1; simp [hy] at h
          clear hx hy
          go_wp2_with fail
          go_quiet (fail)
          go_wp2
          go_ret
          exact ⟨ret_no A1.out, m + nq, World.drewN_drewN _ _ _⟩
      · have hxb : (x == x2) = false := by simp [hx]
        have A1 : Aside (l ≠ l2) := by unfold Aside; intro e; have h := (ED.out.1 e).1; simp [hx] at h
        clear hx
        go_wp2_with fail
        go_quiet (fail)
        go_wp2
        go_ret
        exact ⟨ret_no A1.out, m + nq, World.drewN_drewN _ _ _⟩
    · go_wp2
      go_ret
      exact ⟨ret_yes (A.out.1 (by rw [List.drop_eq_nil_of_le (by rw [HL.out]; omega), List.drop_eq_nil_of_le (by rw [HL2.out]; omega)])), m, rfl⟩

theorem same_any (a a2 : Option Addr) (n n2 cap cap2 : Nat) (l l2 : List (Int × Int)) (w : World) (h : Rd w a n l) (h2 : Rd w a2 n2 l2) (hm : n ≤ 9223372036854775807) :
    Calls Tryz.prog 18 #[.slice a n cap, .slice a2 n2 cap2] w fun e w' => e = .returned (.bool (decide (l = l2))) ∧ Below w.heap.size w w' := by
  by_cases hn : n = n2
  · subst hn
    rcases h.cases with ⟨rfl, rfl⟩ | ⟨b, off, rfl, hn, hl, hB, hc⟩
    · have e2 : l2 = [] := List.eq_nil_of_length_eq_zero h2.1
      subst e2
      refine (same_none a a2 cap cap2 w).mono ?_
      rintro e w' ⟨rfl, rfl⟩
      exact ⟨rfl, Below.refl _ _⟩
    · rcases h2.cases with ⟨rfl, rfl⟩ | ⟨b2, off2, rfl, hn2, hl2, hB2, hc2⟩
      · omega
      · refine (same_some b off b2 off2 n cap cap2 l l2 w hm hl hl2 hc hc2).mono ?_
        rintro e w' ⟨rfl, m, rfl⟩
        exact ⟨rfl, drewN_below w m⟩
  · refine (same_len a a2 n n2 cap cap2 w hn).mono ?_
    rintro e w' ⟨rfl, rfl⟩
    exact ⟨ret_no (fun e => hn (by rw [← h.1, ← h2.1, e])), Below.refl _ _⟩

theorem below2 {w a b : World} (h : Below w.heap.size w a) (k : Below a.heap.size a b) : Below w.heap.size w b := h.trans (k.mono h.size)

end Go.Proofs.YtcgpgflnihjpiafGreat

/- The valueOf of the reference. -/
namespace Go.Proofs.YtcgpgflnihjpiafGreat
open Go.RowKit

/-! ### The reference's valueOf and FindOf -/
theorem value_none (a : Option Addr) (cap : Nat) (key : Int) (w : World) :
    Calls Tryz.prog 150 #[.slice a 0 cap, .int .i64 key] w fun e w' => e = .returned (.int .i64 (-1)) ∧ w' = w := by
  go_enter Tryz.func150, Tryz.ntmps150
  go_wp2
  refine wp_loop_rounds 1 ?_
  rw [rounds_succ]
  go_wp2
  go_ret
  exact ⟨rfl, rfl⟩

set_option maxHeartbeats 1000000 in
theorem value_some (b off n cap : Nat) (l : List (Int × Int)) (key : Int) (w : World) (hn : n ≤ 40) (hl : l.length = n)
    (hc : ∀ i, i < n → w.cell? ⟨b, off + i * 2, none⟩ = some (.int .i64 (l.getD i (0, 0)).1) ∧ w.cell? ⟨b, off + i * 2 + 1, none⟩ = some (.int .i64 (l.getD i (0, 0)).2)) :
    Calls Tryz.prog 150 #[.slice (some ⟨b, off, none⟩) n cap, .int .i64 key] w fun e w' => e = .returned (.int .i64 (M.find key l)) ∧ w' = w := by
  have HC : Aside (∀ i, i < n → w.cell? ⟨b, off + i * 2, none⟩ = some (.int .i64 (l.getD i (0, 0)).1) ∧ w.cell? ⟨b, off + i * 2 + 1, none⟩ = some (.int .i64 (l.getD i (0, 0)).2)) := hc
  have HL : Aside (l.length = n) := hl
  clear hc hl
  go_enter Tryz.func150, Tryz.ntmps150
  go_wp2
  go_loopg [5] n (fun g i wr => ∃ k : Nat, k + g = n ∧ i = .int .i64 k ∧ wr = w ∧ Aside (M.find key (l.drop k) = M.find key l))
  case atStart => exact ⟨0, by omega, rfl, rfl, by simp [Aside]⟩
  case round =>
    obtain ⟨k, hk, rfl, rfl, A⟩ := hrel
    by_cases hlt : k < n
    · obtain ⟨x, y, hxy⟩ : ∃ x y, l.getD k (0, 0) = (x, y) := ⟨_, _, rfl⟩
      have c0 : wr.cell? ⟨b, off + k * 2, none⟩ = some (.int .i64 x) := by rw [(HC.out k hlt).1, hxy]
      have c1 : wr.cell? ⟨b, off + k * 2 + 1, none⟩ = some (.int .i64 y) := by rw [(HC.out k hlt).2, hxy]
      have HXY : Aside (l.getD k (0, 0) = (x, y)) := hxy
      clear hxy
      by_cases hx : x = key
      · have HX : Aside (x = key) := hx
        have hb : (x == key) = true := by simp [hx]
        clear hx
        go_wp2
        go_ret
        exact ⟨ret_int (A.out.symm.trans (M.find_here key l k (by rw [HL.out]; exact hlt) x y HXY.out HX.out)).symm, rfl⟩
      · have hb : (x == key) = false := by simp [hx]
        go_wp2
        go_roundg (gk - 1)
        case measure => omega
        case rel => exact ⟨k + 1, by omega, by go_num, rfl, by unfold Aside; rw [← A.out, M.find_step key l k (by rw [HL.out]; exact hlt) x y HXY.out hx]⟩
    · go_wp2
      go_ret
      exact ⟨ret_int (A.out.symm.trans (M.find_end key l k (by rw [HL.out]; omega))).symm, rfl⟩

theorem value_any (a : Option Addr) (n cap : Nat) (l : List (Int × Int)) (key : Int) (w : World) (h : Rd w a n l) (hn : n ≤ 40) :
    Calls Tryz.prog 150 #[.slice a n cap, .int .i64 key] w fun e w' => e = .returned (.int .i64 (M.find key l)) ∧ w' = w := by
  rcases h.cases with ⟨rfl, rfl⟩ | ⟨b, off, rfl, hn0, hl, hB, hc⟩
  · exact value_none a cap key w
  · exact value_some b off n cap l key w hn hl hc

end Go.Proofs.YtcgpgflnihjpiafGreat

/- Plain facts: what is put is found, all else is as it was; of two keys it does not matter which is put first. -/
namespace Go.Proofs.YtcgpgflnihjpiafGreat.M

theorem mem_lows {key : Int} {l : List (Int × Int)} {r : Int × Int} : r ∈ lows key l ↔ r ∈ l ∧ r.1 < key := by simp [lows]
theorem mem_highs {key : Int} {l : List (Int × Int)} {r : Int × Int} : r ∈ highs key l ↔ r ∈ l ∧ key < r.1 := by simp [highs]
theorem mem_own {key val : Int} {r : Int × Int} : r ∈ own key val ↔ val ≠ -1 ∧ r = (key, val) := by
  unfold own; split <;> simp_all
theorem mem_put {key val : Int} {l : List (Int × Int)} {r : Int × Int} : r ∈ put key val l ↔ (r ∈ l ∧ r.1 ≠ key) ∨ (val ≠ -1 ∧ r = (key, val)) := by
  unfold put
  rw [List.mem_append, List.mem_append, mem_lows, mem_highs, mem_own]
  constructor
  · rintro ((⟨h1, h2⟩ | h) | ⟨h1, h2⟩)
    · exact Or.inl ⟨h1, by omega⟩
    · exact Or.inr h
    · exact Or.inl ⟨h1, by omega⟩
  · rintro (⟨h1, h2⟩ | h)
    · rcases Int.lt_or_gt_of_ne h2 with h | h
      · exact Or.inl (Or.inl ⟨h1, h⟩)
      · exact Or.inr ⟨h1, h⟩
    · exact Or.inl (Or.inr h)

theorem put_ok {key val : Int} {l : List (Int × Int)} (ok : Ok l) (h0 : 0 ≤ key) (h1 : key ≤ 99) (v0 : -1 ≤ val) (v1 : val ≤ 996) : Ok (put key val l) := by
  refine ⟨fun r hr => ?_, ?_⟩
  · rcases mem_put.1 hr with ⟨h, _⟩ | ⟨h, rfl⟩
    · exact ok.1 r h
    · exact ⟨h0, h1, by show 0 ≤ val; omega, v1⟩
  · unfold put
    rw [List.pairwise_append, List.pairwise_append]
    refine ⟨⟨ok.2.sublist List.filter_sublist, ?_, ?_⟩, ok.2.sublist List.filter_sublist, ?_⟩
    · unfold own; split <;> simp
    · intro x hx y hy
      have h2 := (mem_lows.1 hx).2
      obtain ⟨_, rfl⟩ := mem_own.1 hy
      exact h2
    · intro x hx y hy
      have h2 := (mem_highs.1 hy).2
      rcases List.mem_append.1 hx with hx | hx
      · have := (mem_lows.1 hx).2; omega
      · obtain ⟨_, rfl⟩ := mem_own.1 hx
        exact h2

theorem find_range {key : Int} {l : List (Int × Int)} (ok : Ok l) : -1 ≤ find key l ∧ find key l ≤ 996 := by
  by_cases h : ∃ r ∈ l, r.1 = key
  · obtain ⟨r, hr, e⟩ := h
    rw [find_mem key l ok.2 r hr e]
    have := ok.1 r hr; omega
  · rw [find_none key l fun r hr e => h ⟨r, hr, e⟩]; omega

theorem find_put_same {key val : Int} {l : List (Int × Int)} (ok : Ok l) (h0 : 0 ≤ key) (h1 : key ≤ 99) (v0 : -1 ≤ val) (v1 : val ≤ 996) : find key (put key val l) = val := by
  by_cases hv : val = -1
  · rw [hv]
    refine find_none _ _ fun r hr e => ?_
    rcases mem_put.1 hr with ⟨_, h⟩ | ⟨h, _⟩
    · exact h e
    · exact h rfl
  · exact find_mem key _ (put_ok ok h0 h1 v0 v1).2 (key, val) (mem_put.2 (Or.inr ⟨hv, rfl⟩)) rfl

theorem find_put_other {key val k : Int} {l : List (Int × Int)} (ok : Ok l) (h0 : 0 ≤ key) (h1 : key ≤ 99) (v0 : -1 ≤ val) (v1 : val ≤ 996) (hk : k ≠ key) : find k (put key val l) = find k l := by
  by_cases h : ∃ r ∈ l, r.1 = k
  · obtain ⟨r, hr, e⟩ := h
    rw [find_mem k l ok.2 r hr e]
    exact find_mem k _ (put_ok ok h0 h1 v0 v1).2 r (mem_put.2 (Or.inl ⟨hr, by omega⟩)) e
  · rw [find_none k l fun r hr e => h ⟨r, hr, e⟩]
    refine find_none _ _ fun r hr e => ?_
    rcases mem_put.1 hr with ⟨hr, _⟩ | ⟨_, rfl⟩
    · exact h ⟨r, hr, e⟩
    · exact hk e.symm

/-- Two lists of right rows of which each key has the same value are the same. -/
theorem ext (a b : List (Int × Int)) (ha : Ok a) (hb : Ok b) (h : ∀ k, find k a = find k b) : a = b := by
  induction a generalizing b with
  | nil =>
    cases b with
    | nil => rfl
    | cons r t =>
      have h1 := h r.1
      rw [find, find, if_pos rfl] at h1
      have := hb.1 r (by simp); omega
  | cons q s ih =>
    cases b with
    | nil =>
      have h1 := h q.1
      rw [find, find, if_pos rfl] at h1
      have := ha.1 q (by simp); omega
    | cons r t =>
      have hq := ha.1 q (by simp)
      have hr := hb.1 r (by simp)
      have e1 : q.1 = r.1 := by
        rcases Int.lt_trichotomy q.1 r.1 with hlt | he | hgt
        · have h1 := h q.1
          rw [find, if_pos rfl, find_none q.1 (r :: t)] at h1
          · omega
          · intro x hx
            rcases List.mem_cons.1 hx with rfl | hx
            · omega
            · have := hb.head x hx; omega
        · exact he
        · have h1 := h r.1
          rw [find_none r.1 (q :: s), find, if_pos rfl] at h1
          · omega
          · intro x hx
            rcases List.mem_cons.1 hx with rfl | hx
            · omega
            · have := ha.head x hx; omega
      have e2 : q.2 = r.2 := by
        have h1 := h q.1
        rw [find, if_pos rfl, find, if_pos e1.symm] at h1
        exact h1
      have e : q = r := Prod.ext e1 e2
      subst e
      rw [ih t ha.tail hb.tail fun k => ?_]
      by_cases hk : q.1 = k
      · subst hk
        rw [find_none q.1 s fun x hx => by have := ha.head x hx; omega, find_none q.1 t fun x hx => by have := hb.head x hx; omega]
      · have h1 := h k
        rwa [find, if_neg hk, find, if_neg hk] at h1

/-- Of two keys it does not matter which is put first. -/
theorem put_comm {a u b v : Int} {l : List (Int × Int)} (ok : Ok l) (a0 : 0 ≤ a) (a1 : a ≤ 99) (u0 : -1 ≤ u) (u1 : u ≤ 996) (b0 : 0 ≤ b) (b1 : b ≤ 99) (v0 : -1 ≤ v) (v1 : v ≤ 996) (hab : a ≠ b) : put b v (put a u l) = put a u (put b v l) := by
  have oa := put_ok ok a0 a1 u0 u1
  have ob := put_ok ok b0 b1 v0 v1
  refine ext _ _ (put_ok oa b0 b1 v0 v1) (put_ok ob a0 a1 u0 u1) fun k => ?_
  by_cases h1 : k = a
  · subst h1
    rw [find_put_other oa b0 b1 v0 v1 hab, find_put_same ok a0 a1 u0 u1, find_put_same ob a0 a1 u0 u1]
  · by_cases h2 : k = b
    · subst h2
      rw [find_put_same oa b0 b1 v0 v1, find_put_other ob a0 a1 u0 u1 h1, find_put_same ok b0 b1 v0 v1]
    · rw [find_put_other oa b0 b1 v0 v1 h2, find_put_other ok a0 a1 u0 u1 h1, find_put_other ob a0 a1 u0 u1 h1, find_put_other ok b0 b1 v0 v1 h2]

/-- Put as it was, nothing has changed. -/
theorem put_back {a u : Int} {l : List (Int × Int)} (ok : Ok l) (a0 : 0 ≤ a) (a1 : a ≤ 99) (u0 : -1 ≤ u) (u1 : u ≤ 996) : put a (find a l) (put a u l) = l := by
  have oa := put_ok ok a0 a1 u0 u1
  have hr := find_range (key := a) ok
  refine ext _ _ (put_ok oa a0 a1 hr.1 hr.2) ok fun k => ?_
  by_cases h1 : k = a
  · subst h1; rw [find_put_same oa a0 a1 hr.1 hr.2]
  · rw [find_put_other oa a0 a1 hr.1 hr.2 h1, find_put_other ok a0 a1 u0 u1 h1]

/-- What is so where two puts are right. -/
theorem two_puts {l : List (Int × Int)} {a u b v : Int} (h1 : putE l a u = 0) (h2 : putE l b v = 0) :
    asked l a = 0 ∧ asked (put a u l) a = 0 ∧ asked l b = 0 ∧ asked (put a u l) b = 0 ∧ putE (put a u l) a (find a l) = 0 ∧ find a (put a u l) = u ∧ (a ≠ b → find b (put a u l) = find b l) ∧ put a (find a l) (put a u l) = l ∧
    (a ≠ b → putE (put a u l) b v = putE (put b v l) a u ∧ putV (put a u l) b v = putV (put b v l) a u) := by
  obtain ⟨s1, s2, s3, s4⟩ := putE_zero h1
  obtain ⟨t1, t2, t3, t4⟩ := putE_zero h2
  obtain ⟨c, a0, a1⟩ := asked_zero s1
  obtain ⟨_, b0, b1⟩ := asked_zero t1
  have hz := (chk_zero l).1 c
  have ok := hz.2
  have oa := put_ok ok a0 a1 s2 s3
  have ob := put_ok ok b0 b1 t2 t3
  have hr := find_range (key := a) ok
  have ca : chk (put a u l) = 0 := (chk_zero _).2 ⟨s4, oa⟩
  have cb : chk (put b v l) = 0 := (chk_zero _).2 ⟨t4, ob⟩
  have hback := put_back ok a0 a1 s2 s3
  refine ⟨s1, asked_ok ca a0 a1, t1, asked_ok ca b0 b1, putE_ok (asked_ok ca a0 a1) hr.1 hr.2 (by rw [hback]; exact hz.1), find_put_same ok a0 a1 s2 s3, fun hab => find_put_other ok a0 a1 s2 s3 (Ne.symm hab), hback, fun hab => ?_⟩
  have hc := put_comm ok a0 a1 s2 s3 b0 b1 t2 t3 hab
  have he : putE (put a u l) b v = putE (put b v l) a u := by
    by_cases h40 : 40 < (put b v (put a u l)).length
    · rw [putE_many (asked_ok ca b0 b1) t2 t3 h40, putE_many (asked_ok cb a0 a1) s2 s3 (by rw [← hc]; exact h40)]
    · rw [putE_ok (asked_ok ca b0 b1) t2 t3 (by omega), putE_ok (asked_ok cb a0 a1) s2 s3 (by rw [← hc]; omega)]
  refine ⟨he, ?_⟩
  unfold putV
  rw [he, hc]

end Go.Proofs.YtcgpgflnihjpiafGreat.M

/- The reference's tables: spread, folded, PutOf. -/
namespace Go.Proofs.YtcgpgflnihjpiafGreat
open Go.RowKit

theorem zeroTable : ∃ Z : Array Value, Z.size = 100 ∧ ∀ W, (zeroValue 166).run Tryz.prog W = .ok (.agg Z) W := ⟨Array.replicate 100 (.int .i64 0), by simp, fun W => by kernel_rfl⟩
theorem infoTable : (Tryz.prog.info? 166).map (·.size) = some 100 := by kernel_rfl

theorem set_get (cs : Array Value) (k i : Nat) (v : Value) (hk : k < cs.size) : (cs.setIfInBounds k v)[i]? = if k = i then some v else cs[i]? := by
  rw [Array.getElem?_setIfInBounds]
  by_cases h : k = i
  · subst h; simp [hk]
  · simp [h]

set_option maxHeartbeats 4000000 in
theorem spread_any (a : Option Addr) (n cap : Nat) (l : List (Int × Int)) (w : World) (h : Rd w a n l) (hn : n ≤ 40) :
    Calls Tryz.prog 127 #[.slice a n cap] w fun e w' => ∃ cs : Array Value, e = .returned (.agg cs) ∧ cs.size = 100 ∧ (∀ i : Nat, i < 100 → cs[i]? = some (.int .i64 (M.find i l))) ∧ Below w.heap.size w w' := by
  obtain ⟨Z, hZ, hz⟩ := zeroTable
  have HR : Aside (Rd w a n l) := h
  clear h
  go_enter Tryz.func127, Tryz.ntmps127
  go_wp2_with fail
  go_loopg [4] 100 (fun g i wr => ∃ (k : Nat) (cs : Array Value), k + g = 100 ∧ i = .int .i64 k ∧ Aside (cs.size = 100) ∧ Aside (wr.heap[w.heap.size]? = some (.cells Z 166 (0, 0))) ∧ Aside (wr.heap[w.heap.size + 1]? = some (.cells cs 166 (0, 0))) ∧ Aside (∀ j : Nat, j < k → cs[j]? = some (.int .i64 (M.find j l))) ∧ Below w.heap.size w wr)
  case atStart => exact ⟨0, Z, by omega, rfl, hZ, heap_alloc2_old w _ _, heap_alloc2_new w _ _, fun j hj => by omega, ((Below.refl _ _).alloc (Nat.le_refl _) _).alloc (by simp) _⟩
  case round =>
    obtain ⟨k, cs, hk, rfl, HSz, H0, H1, HF, hb⟩ := hrel
    by_cases hlt : k < 100
    · have hc : wr.cell? ⟨w.heap.size + 1, k, none⟩ = cs[k]? := cell_of_row wr _ k cs _ _ H1.out
      obtain ⟨u, hu⟩ : ∃ u, cs[k]? = some u := ⟨_, Array.getElem?_eq_getElem (by rw [HSz.out]; exact hlt)⟩
      rw [hu] at hc
      have hf : wr.frozen? ⟨w.heap.size + 1, k, none⟩ = false := frozen_of_row wr _ k cs _ H1.out
      clear hu
      obtain ⟨x, hx⟩ : ∃ x, x = M.find k l := ⟨_, rfl⟩
      have HX : Aside (x = M.find k l) := hx
      have HV : Aside (Calls Tryz.prog 150 #[.slice a n cap, .int .i64 k] wr fun e w' => e = .returned (.int .i64 x) ∧ w' = wr) := by rw [hx]; exact value_any a n cap l k wr (HR.out.below hb (Nat.le_refl _)) hn
      clear hx
      go_wp2_with fail
      refine HV.out.mono ?_
      rintro e w1 ⟨rfl, hw⟩
      subst hw
      have H0' : Aside ((w1.setCell ⟨w.heap.size + 1, k, none⟩ (.int .i64 x)).heap[w.heap.size]? = some (.cells Z 166 (0, 0))) := (heap_setCell_other w1 _ _ _ (by simp)).trans H0.out
      have H1' : Aside ((w1.setCell ⟨w.heap.size + 1, k, none⟩ (.int .i64 x)).heap[w.heap.size + 1]? = some (.cells (cs.setIfInBounds k (.int .i64 x)) 166 (0, 0))) := heap_setCell_same w1 _ k cs _ _ H1.out
      have HF' : Aside (∀ j : Nat, j < k + 1 → (cs.setIfInBounds k (.int .i64 x))[j]? = some (.int .i64 (M.find j l))) := fun j hj => by
        rw [set_get cs k j _ (by rw [HSz.out]; exact hlt)]
        by_cases e : k = j
        · subst e; rw [if_pos rfl, HX.out]
        · rw [if_neg e]; exact HF.out j (by omega)
      have hb' := hb.setCell (p := ⟨w.heap.size + 1, k, none⟩) (by simp) (.int .i64 x)
      clear HV
      go_wp2
      go_roundg (gk - 1)
      case measure => omega
      case rel => exact ⟨k + 1, cs.setIfInBounds k (.int .i64 x), by omega, by go_num, by simpa [Aside] using HSz.out, H0', H1', HF', hb'⟩
    · have HF' : Aside (∀ j : Nat, j < 100 → cs[j]? = some (.int .i64 (M.find j l))) := fun j hj => HF.out j (by omega)
      have hone : Aside (cs.all (·.oneCell') = true) := by
        refine Array.all_eq_true_iff_forall_mem.2 fun v hv => ?_
        obtain ⟨j, hj, e⟩ := Array.mem_iff_getElem.1 hv
        have h2 := HF'.out j (by rw [← HSz.out]; exact hj)
        rw [Array.getElem?_eq_getElem hj, e] at h2
        cases h2
        rfl
      go_wp2_with (first | (refine wpList_load_row rfl 166 _ rfl (w.heap.size + 1) rfl 166 cs _ _ H1.out Tryz.underlying166 rfl (by rw [HSz.out]; exact infoTable) ?_) | (refine wpList_store_row rfl 166 _ _ rfl w.heap.size cs rfl rfl 166 Z H0.out (by rw [HSz.out]; exact infoTable) (by rw [HSz.out]; exact hZ) hone.out ?_))
      exact bodyPost_ret (v := .agg cs) (results_cell_row Tryz.results127 _ _ w.heap.size 166 cs (0, 0) _ rfl (setRow_heap wr _ Z cs _ _ H0.out) Tryz.underlying166 rfl (by rw [HSz.out]; exact infoTable)) rfl ⟨cs, rfl, HSz.out, HF'.out, below_setRow hb (Nat.le_refl _) cs⟩

namespace M
/-- The rows of a table, up to a key. -/
def foldTo (f : Nat → Int) : Nat → List (Int × Int)
  | 0 => []
  | k + 1 => if f k = -1 then foldTo f k else foldTo f k ++ [((k : Int), f k)]
theorem foldTo_len (f : Nat → Int) (k : Nat) : (foldTo f k).length ≤ k := by
  induction k with
  | zero => simp [foldTo]
  | succ k ih => rw [foldTo]; split
                 · omega
                 · simp; omega
theorem mem_foldTo (f : Nat → Int) (k : Nat) (r : Int × Int) : r ∈ foldTo f k ↔ ∃ i, i < k ∧ f i ≠ -1 ∧ r = ((i : Int), f i) := by
  induction k with
  | zero => simp [foldTo]
  | succ k ih =>
    rw [foldTo]
    split
    · rename_i h
      rw [ih]
      constructor
      · rintro ⟨i, h1, h2, h3⟩; exact ⟨i, by omega, h2, h3⟩
      · rintro ⟨i, h1, h2, h3⟩
        by_cases e : i = k
        · subst e; exact absurd h h2
        · exact ⟨i, by omega, h2, h3⟩
    · rename_i h
      rw [List.mem_append, ih]
      constructor
      · rintro (⟨i, h1, h2, h3⟩ | h1)
        · exact ⟨i, by omega, h2, h3⟩
        · exact ⟨k, by omega, h, by simpa using h1⟩
      · rintro ⟨i, h1, h2, h3⟩
        by_cases e : i = k
        · subst e; exact Or.inr (by simp [h3])
        · exact Or.inl ⟨i, by omega, h2, h3⟩
theorem foldTo_pair (f : Nat → Int) (k : Nat) : (foldTo f k).Pairwise (fun a b => a.1 < b.1) := by
  induction k with
  | zero => simp [foldTo]
  | succ k ih =>
    rw [foldTo]
    split
    · exact ih
    · rw [List.pairwise_append]
      refine ⟨ih, by simp, fun x hx y hy => ?_⟩
      obtain ⟨i, h1, _, rfl⟩ := (mem_foldTo f k x).1 hx
      have : y = ((k : Int), f k) := by simpa using hy
      subst this
      show (i : Int) < (k : Int)
      omega
/-- A table with one value put is the rows with that key put. -/
theorem fold_put {key val : Int} {l : List (Int × Int)} (ok : Ok l) (h0 : 0 ≤ key) (h1 : key ≤ 99) (v0 : -1 ≤ val) (v1 : val ≤ 996) (f : Nat → Int) (hf : ∀ i : Nat, i < 100 → f i = if (i : Int) = key then val else find i l) : foldTo f 100 = put key val l := by
  have okp := put_ok ok h0 h1 v0 v1
  have okf : Ok (foldTo f 100) := by
    refine ⟨fun r hr => ?_, foldTo_pair f 100⟩
    obtain ⟨i, hi, hne, rfl⟩ := (mem_foldTo f 100 r).1 hr
    have e := hf i hi
    have hr := find_range (key := (i : Int)) ok
    refine ⟨by show 0 ≤ (i : Int); omega, by show (i : Int) ≤ 99; omega, ?_, ?_⟩
    · show 0 ≤ f i
      rw [e] at hne ⊢
      split at hne <;> simp_all <;> omega
    · show f i ≤ 996
      rw [e]; split <;> omega
  refine ext _ _ okf okp fun k => ?_
  by_cases hk : 0 ≤ k ∧ k ≤ 99
  · obtain ⟨i, rfl⟩ := Int.eq_ofNat_of_zero_le hk.1
    have hi : i < 100 := by omega
    have e1 : find (i : Int) (foldTo f 100) = f i := by
      by_cases hne : f i = -1
      · rw [hne]
        refine find_none _ _ fun r hr e => ?_
        obtain ⟨j, hj, hn, rfl⟩ := (mem_foldTo f 100 r).1 hr
        have : j = i := by have : (j : Int) = (i : Int) := e; omega
        subst this
        exact hn hne
      · exact find_mem _ _ okf.2 ((i : Int), f i) ((mem_foldTo f 100 _).2 ⟨i, hi, hne, rfl⟩) rfl
    rw [e1, hf i hi]
    by_cases e : (i : Int) = key
    · rw [if_pos e, e, find_put_same ok h0 h1 v0 v1]
    · rw [if_neg e, find_put_other ok h0 h1 v0 v1 e]
  · rw [find_none k _ fun r hr e => ?_, find_none k _ fun r hr e => ?_]
    · have := okp.1 r hr; omega
    · have := okf.1 r hr; omega
end M

set_option maxHeartbeats 4000000 in
theorem folded_any (cs : Array Value) (f : Nat → Int) (w : World) (hf : ∀ i : Nat, i < 100 → cs[i]? = some (.int .i64 (f i))) :
    Calls Tryz.prog 128 #[.agg cs] w fun e w' => ∃ v, e = .returned v ∧ Own w' (w.heap.size + 1) v (M.foldTo f 100) ∧ Below w.heap.size w w' := by
  obtain ⟨Wb, hWb⟩ : ∃ Wb, Wb = w.alloc (.cells cs 166) := ⟨_, rfl⟩
  have bb : Below w.heap.size w Wb := by rw [hWb]; exact (Below.refl _ _).alloc (Nat.le_refl _) _
  have hbs : Wb.heap.size = w.heap.size + 1 := by rw [hWb]; simp
  have hrow : Wb.heap[w.heap.size]? = some (.cells cs 166 (0, 0)) := by rw [hWb]; exact heap_alloc_new w _
  have HW : Hid (Wb = w.alloc (.cells cs 166)) := hWb
  have HCells : Aside (∀ W, Below Wb.heap.size Wb W → ∀ i : Nat, i < 100 → W.cell? ⟨w.heap.size, i, none⟩ = some (.int .i64 (f i))) := fun W hW i hi => by
    rw [hW.cell (p := ⟨w.heap.size, i, none⟩) (by show w.heap.size < _; omega), cell_of_row Wb _ i cs _ _ hrow]
    exact hf i hi
  have HBs : Aside (Wb.heap.size = w.heap.size + 1) := hbs
  clear hWb hrow hf hbs
  go_enter Tryz.func128, Tryz.ntmps128
  go_wp2_with fail
  rw [← HW.out]
  go_loopg [3, 4] 100 (fun g v i wr => ∃ k : Nat, k + g = 100 ∧ i = .int .i64 k ∧ Aside (Own wr (w.heap.size + 1) v (M.foldTo f k)) ∧ Below Wb.heap.size Wb wr)
  case atStart => exact ⟨0, by omega, rfl, World.ownsRow_nil _ _ _ _, Below.refl _ _⟩
  case round =>
    obtain ⟨k, hk, rfl, HO, hb⟩ := hrel
    have hsz2 := hb.size
    by_cases hlt : k < 100
    · have hc := HCells.out wr hb k hlt
      obtain ⟨x, hx⟩ : ∃ x, x = f k := ⟨_, rfl⟩
      rw [← hx] at hc
      have HX : Aside (x = f k) := hx
      clear hx
      by_cases hx1 : x = -1
      · have hxb : (x != -1) = false := by simp [hx1]
        have HO' : Aside (Own wr (w.heap.size + 1) u3 (M.foldTo f (k + 1))) := by unfold Aside; rw [M.foldTo, if_pos (by rw [← HX.out]; exact hx1)]; exact HO.out
        clear hx1
        go_wp2
        go_roundg (gk - 1)
        case measure => omega
        case rel => exact ⟨k + 1, by omega, by go_num, HO', hb⟩
      · have hxb : (x != -1) = true := by simp [hx1]
        have EX : Aside (M.foldTo f (k + 1) = M.foldTo f k ++ [((k : Int), x)]) := by unfold Aside; rw [M.foldTo, if_neg (by rw [← HX.out]; exact hx1), HX.out]
        have HO1 : Aside (Own (wr.alloc (.cells #[.int .i64 (k : Int), .int .i64 x] 98)) (w.heap.size + 1) u3 (M.foldTo f k)) := World.ownsRow.alloc HO.out _
        have HR : Aside (Rd (wr.alloc (.cells #[.int .i64 (k : Int), .int .i64 x] 98)) (some ⟨wr.heap.size, 0, none⟩) 1 [((k : Int), x)]) := one_rd wr _ _
        have HL : Aside ((M.foldTo f k).length + 1 ≤ 1000000) := by have := M.foldTo_len f k; unfold Aside; omega
        clear hx1
        go_wp2_with (at_builtin; refine append_rd rfl _ _ rfl (w.heap.size + 1) _ (M.foldTo f k) rfl HO1.out (some ⟨wr.heap.size, 0, none⟩) 1 1 _ rfl HR.out (by simp) HL.out (by have := HBs.out; simp; omega) ?_)
        intro v' w' ho' hb3
        have HO' : Aside (Own w' (w.heap.size + 1) v' (M.foldTo f (k + 1))) := by unfold Aside; rw [EX.out]; exact ho'
        have hb4 : Below Wb.heap.size Wb w' := (hb.alloc hb.size _).trans (hb3.mono (by rw [HBs.out]; omega))
        clear ho' hb3 HO1 HR
        go_wp2
        go_roundg (gk - 1)
        case measure => omega
        case rel => exact ⟨k + 1, by omega, by go_num, HO', hb4⟩
    · obtain rfl : k = 100 := by omega
      go_wp2
      go_ret
      exact ⟨_, rfl, HO.out, bb.trans (hb.mono (by rw [HBs.out]; omega))⟩
end Go.Proofs.YtcgpgflnihjpiafGreat

/- A map of the call's own with numbers as keys, as a function on numbers. -/
namespace Go.Proofs.YtcgpgflnihjpiafGreat
namespace M
theorem sel_rise (p : Nat → Bool) (n : Nat) : (sel p n).Pairwise (· < ·) := by
  induction n with
  | zero => simp [sel]
  | succ n ih =>
    rw [sel]
    split
    · rw [List.pairwise_append]
      refine ⟨ih, by simp, fun x hx y hy => ?_⟩
      obtain ⟨k, hk, _, rfl⟩ := (mem_sel p n x).1 hx
      have : y = (n : Int) := by simpa using hy
      omega
    · exact ih
end M
open Go.RowKit Go.Maps

/-- An element stands for itself. -/
def RH (v : Value) : Option (DataW Value × List MemPlace) := some (.held v, [])
theorem klawM : Keyed Tryz.prog 3 := int_keyed Tryz.underlying3
def upd (f : Int → Option Value) (x : Int) (v : Value) : Int → Option Value := fun y => if y = x then some v else f y
theorem upd_same (f : Int → Option Value) (x : Int) (v : Value) : upd f x v x = some v := by simp [upd]
theorem upd_other (f : Int → Option Value) (x y : Int) (v : Value) (h : y ≠ x) : upd f x v y = f y := by simp [upd, h]

/-- Block b is a map that has what f has. -/
def Mp (w : World) (b n : Nat) (f : Int → Option Value) : Prop :=
  ∃ D, w.ownsMap Tryz.prog 3 RH b n D ∧ (∀ x, Maps.has D (.int .i64 x) = (f x).isSome) ∧ ∀ x v, f x = some v → ∀ zd, D.atKey (.int .i64 x) zd = .held v

theorem Mp.lt {w : World} {b n : Nat} {f : Int → Option Value} (h : Mp w b n f) : b < w.heap.size := by
  obtain ⟨D, h1, _⟩ := h; exact h1.lt
theorem Mp.mono {w : World} {b n n' : Nat} {f : Int → Option Value} (h : Mp w b n f) (hn : n ≤ n') : Mp w b n' f := by
  obtain ⟨D, h1, h2⟩ := h; exact ⟨D, h1.mono hn, h2⟩
theorem Mp.below {w w' : World} {b n B : Nat} {f : Int → Option Value} (h : Mp w b n f) (hb : Below B w w') (hB : b < B) : Mp w' b n f := by
  obtain ⟨D, ⟨es, clock, h0, r⟩, h2⟩ := h
  exact ⟨D, ⟨es, clock, (hb.block b hB).trans h0, r⟩, h2⟩
theorem Mp.alloc {w : World} {b n : Nat} {f : Int → Option Value} (h : Mp w b n f) (o : Obj) : Mp (w.alloc o) b n f := by
  obtain ⟨D, h1, h2⟩ := h; exact ⟨D, h1.alloc o, h2⟩
theorem Mp.kept {w w' : World} {b n : Nat} {row : Option Nat} {f : Int → Option Value} (h : Mp w b n f) (hg : w.grownBy w' row) (hne : some b ≠ row) : Mp w' b n f := by
  obtain ⟨D, h1, h2⟩ := h; exact ⟨D, h1.kept hg hne, h2⟩
theorem Mp.setCell {w : World} {b n : Nat} {f : Int → Option Value} (h : Mp w b n f) {a : Addr} (ha : b ≠ a.block) (u : Value) : Mp (w.setCell a u) b n f := by
  obtain ⟨D, h1, h2⟩ := h; exact ⟨D, h1.setCell ha u, h2⟩
theorem Mp.made (w : World) : Mp (w.alloc (.map #[] 0)) w.heap.size 0 (fun _ => none) :=
  ⟨.map [], World.ownsMap_made w _ _ _, fun x => rfl, fun x v h => by simp at h⟩

theorem keyM (x : Int) (h0 : -9223372036854775808 ≤ x) (h1 : x ≤ 9223372036854775807) : keyOf Tryz.prog 3 (.int .i64 x) = some (.int .i64 x) := keyOf_int_mk Tryz.underlying3 (WalkArith.wf_i64 (by omega))

theorem Mp.update {w : World} {b n : Nat} {f : Int → Option Value} {t e : TypeId} (h : Mp w b n f) (ht : Tryz.prog.underlying t = some (.map 3 e)) (hn : n ≤ 1000) (x : Int) (h0 : -9223372036854775808 ≤ x) (h1 : x ≤ 9223372036854775807) (v : Value) :
    ∃ w', (Instr.mapUpdate t (.map (some b)) (.int .i64 x) v).run Tryz.prog w = .ok () w' ∧ Mp w' b (n + 1) (upd f x v) ∧ w.grownBy w' (some b) := by
  obtain ⟨D, h2, h3, h4⟩ := h
  have hm := h2.isMap
  obtain ⟨w', hrun, r1, r2⟩ := h2.update klawM ht (by unfold maxLen; omega) (keyM x h0 h1) (show RH v = some (.held v, []) from rfl)
  refine ⟨w', hrun, ⟨_, r1, fun y => ?_, fun y u hy zd => ?_⟩, r2⟩
  · by_cases e : y = x
    · subst e; rw [upd_same, Maps.has_put_same hm (by simp [WideAt.IsKeyLit])]; rfl
    · rw [upd_other f x y v e, Maps.has_put_other (by simpa using e), h3]
  · by_cases e : y = x
    · subst e
      rw [upd_same] at hy
      cases hy
      exact Maps.atKey_put_same hm (by simp [WideAt.IsKeyLit]) _ _
    · rw [upd_other f x y v e] at hy
      rw [Maps.atKey_put_other (by simpa using e)]
      exact h4 y u hy zd

theorem Mp.look {w : World} {b n : Nat} {f : Int → Option Value} {t e : TypeId} (h : Mp w b n f) (ht : Tryz.prog.underlying t = some (.map 3 e)) {z : Value} (hz : (zeroValue e).run Tryz.prog w = .ok z w) (x : Int) (h0 : -9223372036854775808 ≤ x) (h1 : x ≤ 9223372036854775807) :
    (Instr.lookup t (.map (some b)) (.int .i64 x) false).run Tryz.prog w = .ok ((f x).getD z) w := by
  obtain ⟨D, h2, h3, h4⟩ := h
  obtain ⟨v, ps, hrun, hv⟩ := h2.lookup klawM ht hz (show RH z = some (.held z, []) from rfl) (keyM x h0 h1)
  rw [hrun]
  have e : DataW.held v = D.atKey (.int .i64 x) (.held z) := by
    unfold RH at hv
    simp only [Option.some.injEq, Prod.mk.injEq] at hv
    exact hv.1
  cases hf : f x with
  | none =>
    rw [Maps.atKey_of_not_has (by rw [h3, hf]; rfl)] at e
    cases e
    rfl
  | some u =>
    rw [h4 x u hf] at e
    cases e
    rfl
theorem Mp.lookOk {w : World} {b n : Nat} {f : Int → Option Value} {t e : TypeId} (h : Mp w b n f) (ht : Tryz.prog.underlying t = some (.map 3 e)) {z : Value} (hz : (zeroValue e).run Tryz.prog w = .ok z w) (x : Int) (h0 : -9223372036854775808 ≤ x) (h1 : x ≤ 9223372036854775807) :
    (Instr.lookup t (.map (some b)) (.int .i64 x) true).run Tryz.prog w = .ok (.tuple #[(f x).getD z, .bool (f x).isSome]) w := by
  obtain ⟨D, h2, h3, h4⟩ := h
  obtain ⟨v, ps, hrun, hv⟩ := h2.look_ok klawM ht hz (show RH z = some (.held z, []) from rfl) (keyM x h0 h1)
  rw [hrun, h3]
  have e : DataW.held v = D.atKey (.int .i64 x) (.held z) := by
    unfold RH at hv
    simp only [Option.some.injEq, Prod.mk.injEq] at hv
    exact hv.1
  cases hf : f x with
  | none =>
    rw [Maps.atKey_of_not_has (by rw [h3, hf]; rfl)] at e
    cases e
    rfl
  | some u =>
    rw [h4 x u hf] at e
    cases e
    rfl

/-- Its keys, sorted. -/
theorem sorted_sel {D : DataW Value} {w : World} {b n : Nat} (hown : w.ownsMap Tryz.prog 3 RH b n D) {f : Int → Option Value} (hh : ∀ x, Maps.has D (.int .i64 x) = (f x).isSome) (m : Nat) (hd : ∀ x, (f x).isSome = true → 0 ≤ x ∧ x < (m : Int)) (ss : List Int) (hp : ss.Perm (intKeys D)) :
    ss.mergeSort (fun x y => decide (x ≤ y)) = M.sel (fun k => (f (k : Int)).isSome) m := by
  have hr := M.sel_rise (fun k => (f (k : Int)).isSome) m
  have hc : CollectedI D (fun _ => false) (M.sel (fun k => (f (k : Int)).isSome) m) := by
    refine ⟨hr.imp fun {a b} h => by omega, fun x => ?_⟩
    rw [M.mem_sel, hh]
    constructor
    · rintro ⟨k, _, h2, rfl⟩; exact ⟨h2, rfl⟩
    · rintro ⟨h1, _⟩
      have := hd x h1
      exact ⟨x.toNat, by omega, by rw [Int.toNat_of_nonneg this.1]; exact h1, by omega⟩
  have hq := hc.perm hown klawM Tryz.underlying3 (fun _ => rfl)
  rw [show (fun x y : Int => decide (x ≤ y)) = leI from rfl, mergeSort_of_perm_i (hp.trans hq.symm)]
  exact List.mergeSort_of_pairwise (hr.imp fun {a b} h => by simp [leI]; omega)
theorem size_keys {D : DataW Value} {w : World} {b n : Nat} (hown : w.ownsMap Tryz.prog 3 RH b n D) : Maps.size D ≤ n := hown.size_le

section
variable {w : World} {ops : Array Oper} {rest : List Oper} {o : Oper} {a : Act} {Q : Exit → Act → World → Prop}
theorem wp_mp_set (hg : o.guard = none) (m x v : Operand) (t e : TypeId) (hop : o.op = Op.mapUpdate t m x v) (ht : Tryz.prog.underlying t = some (.map 3 e)) (b n : Nat) (f : Int → Option Value)
    (hm : a.eval m = .map (some b)) (h : Mp w b n f) (hn : n ≤ 1000) (key : Int) (val : Value) (hx : a.eval x = .int .i64 key) (hv : a.eval v = val) (h0 : -9223372036854775808 ≤ key) (h1 : key ≤ 9223372036854775807)
    (hK : ∀ w', Mp w' b (n + 1) (upd f key val) → w.grownBy w' (some b) → wpList Tryz.prog ops Q rest (a.put o.dst undef) w') : wpList Tryz.prog ops Q (o :: rest) a w := by
  refine wpList_plain hg fun K' hK' => ?_
  obtain ⟨w', hrun, r1, r2⟩ := h.update ht hn key h0 h1 val
  unfold Oper.wp
  simp [execOp, hop, hm, hx, hv, hrun, Result.andThen]
  exact hK' _ _ (hK w' r1 r2)
theorem wp_mp_get (hg : o.guard = none) (m x : Operand) (t e : TypeId) (hop : o.op = Op.lookup t m x false) (ht : Tryz.prog.underlying t = some (.map 3 e)) (z : Value) (hz : (zeroValue e).run Tryz.prog w = .ok z w) (b n : Nat) (f : Int → Option Value)
    (hm : a.eval m = .map (some b)) (h : Mp w b n f) (key : Int) (u : Value) (hu : (f key).getD z = u) (hx : a.eval x = .int .i64 key) (h0 : -9223372036854775808 ≤ key) (h1 : key ≤ 9223372036854775807)
    (hK : wpList Tryz.prog ops Q rest (a.put o.dst u) w) : wpList Tryz.prog ops Q (o :: rest) a w := by
  refine wpList_plain hg fun K' hK' => ?_
  have hrun := h.look ht hz key h0 h1
  rw [hu] at hrun
  unfold Oper.wp
  simp [execOp, hop, hm, hx, hrun, Result.andThen]
  exact hK' _ _ hK
theorem wp_mp_ok (hg : o.guard = none) (m x : Operand) (t e : TypeId) (hop : o.op = Op.lookup t m x true) (ht : Tryz.prog.underlying t = some (.map 3 e)) (z : Value) (hz : (zeroValue e).run Tryz.prog w = .ok z w) (b n : Nat) (f : Int → Option Value)
    (hm : a.eval m = .map (some b)) (h : Mp w b n f) (key : Int) (u : Value) (y : Bool) (hu : (f key).getD z = u) (hy : (f key).isSome = y) (hx : a.eval x = .int .i64 key) (h0 : -9223372036854775808 ≤ key) (h1 : key ≤ 9223372036854775807)
    (hK : wpList Tryz.prog ops Q rest (a.put o.dst (.tuple #[u, .bool y])) w) : wpList Tryz.prog ops Q (o :: rest) a w := by
  refine wpList_plain hg fun K' hK' => ?_
  have hrun := h.lookOk ht hz key h0 h1
  rw [hu, hy] at hrun
  unfold Oper.wp
  simp [execOp, hop, hm, hx, hrun, Result.andThen]
  exact hK' _ _ hK
end
end Go.Proofs.YtcgpgflnihjpiafGreat

/- Plain facts on changes: right ones, laid on rows, and three ways. -/
namespace Go.Proofs.YtcgpgflnihjpiafGreat.M

def cbad (ah : Int) (c : Chg) : Bool := decide (c.1 ≤ ah ∨ 99 < c.1 ∨ c.2.1 < -1 ∨ 996 < c.2.1 ∨ c.2.2 < -1 ∨ 996 < c.2.2 ∨ c.2.1 = c.2.2)
def fineF (ah : Int) : List Chg → Bool
  | [] => true
  | c :: t => !cbad ah c && fineF c.1 t
def fine (d : List Chg) : Bool := fineF (-1) d
theorem gdrop (l : List Chg) (k : Nat) (h : k < l.length) : l.drop k = l.getD k (0, 0, 0) :: l.drop (k + 1) := by
  rw [List.drop_eq_getElem_cons h]; simp [List.getD, h]
theorem gmem (l : List Chg) (k : Nat) (h : k < l.length) : l.getD k (0, 0, 0) ∈ l := by simp [List.getD, h]
theorem fineF_bad (ah : Int) (l : List Chg) (k : Nat) (h : k < l.length) (x y z : Int) (e : l.getD k (0, 0, 0) = (x, y, z)) (hb : x ≤ ah ∨ 99 < x ∨ y < -1 ∨ 996 < y ∨ z < -1 ∨ 996 < z ∨ y = z) : fineF ah (l.drop k) = false := by
  rw [gdrop l k h, e, fineF, cbad, decide_eq_true hb]; rfl
theorem fineF_good (ah : Int) (l : List Chg) (k : Nat) (h : k < l.length) (x y z : Int) (e : l.getD k (0, 0, 0) = (x, y, z)) (hb : ah < x ∧ x ≤ 99 ∧ -1 ≤ y ∧ y ≤ 996 ∧ -1 ≤ z ∧ z ≤ 996 ∧ y ≠ z) : fineF ah (l.drop k) = fineF x (l.drop (k + 1)) := by
  rw [gdrop l k h, e, fineF, cbad, decide_eq_false (by show ¬ (x ≤ ah ∨ 99 < x ∨ y < -1 ∨ 996 < y ∨ z < -1 ∨ 996 < z ∨ y = z); omega)]; rfl
theorem fineF_end (ah : Int) (l : List Chg) (k : Nat) (h : l.length ≤ k) : fineF ah (l.drop k) = true := by
  rw [List.drop_eq_nil_of_le h]; rfl
/-- What right changes are. -/
def Fine (ah : Int) (d : List Chg) : Prop := (∀ c ∈ d, ah < c.1 ∧ c.1 ≤ 99 ∧ -1 ≤ c.2.1 ∧ c.2.1 ≤ 996 ∧ -1 ≤ c.2.2 ∧ c.2.2 ≤ 996 ∧ c.2.1 ≠ c.2.2) ∧ d.Pairwise (fun a b => a.1 < b.1)
theorem fineF_iff (ah : Int) (d : List Chg) : fineF ah d = true ↔ Fine ah d := by
  unfold Fine
  induction d generalizing ah with
  | nil => simp [fineF]
  | cons c t ih =>
    rw [fineF, Bool.and_eq_true, ih]
    have hc : (!cbad ah c) = true ↔ ah < c.1 ∧ c.1 ≤ 99 ∧ -1 ≤ c.2.1 ∧ c.2.1 ≤ 996 ∧ -1 ≤ c.2.2 ∧ c.2.2 ≤ 996 ∧ c.2.1 ≠ c.2.2 := by
      unfold cbad
      rw [Bool.not_eq_true', decide_eq_false_iff_not]
      omega
    rw [hc]
    constructor
    · rintro ⟨h1, h2, h3⟩
      refine ⟨fun q hq => ?_, List.pairwise_cons.2 ⟨fun q hq => (h2 q hq).1, h3⟩⟩
      rcases List.mem_cons.1 hq with rfl | hq
      · exact h1
      · have := h2 q hq; omega
    · rintro ⟨h1, h2⟩
      have h3 := List.pairwise_cons.1 h2
      exact ⟨h1 c (by simp), fun q hq => ⟨h3.1 q hq, (h1 q (by simp [hq])).2⟩, h3.2⟩
theorem fine_iff (d : List Chg) : fine d = true ↔ Fine (-1) d := fineF_iff (-1) d
theorem Fine.len {ah : Int} {d : List Chg} (h : Fine ah d) (h0 : ah ≤ 99) : (d.length : Int) ≤ 99 - ah := by
  induction d generalizing ah with
  | nil => simp; omega
  | cons c t ih =>
    have hc := h.1 c (by simp)
    have h3 := List.pairwise_cons.1 h.2
    have := ih (ah := c.1) ⟨fun q hq => ⟨h3.1 q hq, (h.1 q (by simp [hq])).2⟩, h3.2⟩ hc.2.1
    rw [List.length_cons]
    omega

/-- Has one's key not its Old? -/
def clashF (l : List (Int × Int)) (d : List Chg) : Bool := d.any (fun c => decide (find c.1 l ≠ c.2.1))
/-- The table in which the changes are laid on another. -/
def tab (f : Int → Int) (d : List Chg) : Int → Int := d.foldl (fun f c k => if k = c.1 then c.2.2 else f k) f
theorem tab_snoc (f : Int → Int) (d : List Chg) (c : Chg) (k : Int) : tab f (d ++ [c]) k = if k = c.1 then c.2.2 else tab f d k := by
  unfold tab; rw [List.foldl_append]; rfl
theorem tab_none (f : Int → Int) (d : List Chg) (k : Int) (h : ∀ c ∈ d, c.1 ≠ k) : tab f d k = f k := by
  induction d generalizing f with
  | nil => rfl
  | cons c t ih =>
    have e : tab f (c :: t) k = tab (fun k => if k = c.1 then c.2.2 else f k) t k := rfl
    rw [e, ih _ fun q hq => h q (by simp [hq]), if_neg (fun e => h c (by simp) e.symm)]
theorem tab_mem (f : Int → Int) (d : List Chg) (hd : d.Pairwise (fun a b => a.1 < b.1)) (c : Chg) (hc : c ∈ d) : tab f d c.1 = c.2.2 := by
  induction d generalizing f with
  | nil => simp at hc
  | cons q t ih =>
    have e : tab f (q :: t) c.1 = tab (fun k => if k = q.1 then q.2.2 else f k) t c.1 := rfl
    have h2 := List.pairwise_cons.1 hd
    rw [e]
    rcases List.mem_cons.1 hc with rfl | hc
    · rw [tab_none _ t c.1 (fun r hr => by have := h2.1 r hr; omega), if_pos rfl]
    · exact ih _ h2.2 hc
theorem tab_cases (f : Int → Int) (d : List Chg) (hd : d.Pairwise (fun a b => a.1 < b.1)) (k : Int) : (∃ c ∈ d, c.1 = k ∧ tab f d k = c.2.2) ∨ ((∀ c ∈ d, c.1 ≠ k) ∧ tab f d k = f k) := by
  by_cases h : ∃ c ∈ d, c.1 = k
  · obtain ⟨c, hc, e⟩ := h
    exact Or.inl ⟨c, hc, e, by rw [← e]; exact tab_mem f d hd c hc⟩
  · exact Or.inr ⟨fun c hc e => h ⟨c, hc, e⟩, tab_none f d k fun c hc e => h ⟨c, hc, e⟩⟩

/-- The rows of a table. -/
def ofTab (f : Int → Int) : List (Int × Int) := foldTo (fun i => f (i : Int)) 100
theorem foldTo_congr (f g : Nat → Int) (n : Nat) (h : ∀ i, i < n → f i = g i) : foldTo f n = foldTo g n := by
  induction n with
  | zero => rfl
  | succ n ih => rw [foldTo, foldTo, h n (by omega), ih fun i hi => h i (by omega)]
theorem foldTo_mono (f g : Nat → Int) (n : Nat) (h : ∀ i, i < n → f i ≠ -1 → g i ≠ -1) : (foldTo f n).length ≤ (foldTo g n).length := by
  induction n with
  | zero => simp [foldTo]
  | succ n ih =>
    have i1 := ih fun i hi => h i (by omega)
    have i2 := h n (by omega)
    rw [foldTo, foldTo]
    by_cases e : f n = -1
    · rw [if_pos e]; split
      · exact i1
      · simp; omega
    · rw [if_neg e, if_neg (i2 e)]; simp; exact i1
theorem find_foldTo (f : Nat → Int) (n i : Nat) : find (i : Int) (foldTo f n) = if i < n then f i else -1 := by
  by_cases hi : i < n
  · rw [if_pos hi]
    by_cases hne : f i = -1
    · rw [hne]
      refine find_none _ _ fun r hr e => ?_
      obtain ⟨j, hj, hn, rfl⟩ := (mem_foldTo f n r).1 hr
      have : j = i := by have : (j : Int) = (i : Int) := e; omega
      subst this
      exact hn hne
    · exact find_mem _ _ (foldTo_pair f n) ((i : Int), f i) ((mem_foldTo f n _).2 ⟨i, hi, hne, rfl⟩) rfl
  · rw [if_neg hi]
    refine find_none _ _ fun r hr e => ?_
    obtain ⟨j, hj, hn, rfl⟩ := (mem_foldTo f n r).1 hr
    have : (j : Int) = (i : Int) := e
    omega
theorem ofTab_ok (f : Int → Int) (h : ∀ i : Nat, i < 100 → -1 ≤ f i ∧ f i ≤ 996) : Ok (ofTab f) := by
  refine ⟨fun r hr => ?_, foldTo_pair _ 100⟩
  obtain ⟨i, hi, hne, rfl⟩ := (mem_foldTo _ 100 r).1 hr
  have := h i hi
  refine ⟨by show 0 ≤ (i : Int); omega, by show (i : Int) ≤ 99; omega, ?_, this.2⟩
  show 0 ≤ f (i : Int)
  omega
theorem find_out {l : List (Int × Int)} (ok : Ok l) (k : Int) (h : k < 0 ∨ 99 < k) : find k l = -1 :=
  find_none k l fun r hr e => by have := ok.1 r hr; omega
/-- Rows are the rows of their own table. -/
theorem ofTab_self {R : List (Int × Int)} (ok : Ok R) (f : Int → Int) (hf : ∀ i : Nat, i < 100 → f i = find i R) : ofTab f = R := by
  have ok2 : Ok (ofTab f) := ofTab_ok f fun i hi => by rw [hf i hi]; exact find_range ok
  refine ext _ _ ok2 ok fun k => ?_
  by_cases hk : 0 ≤ k ∧ k ≤ 99
  · obtain ⟨i, rfl⟩ := Int.eq_ofNat_of_zero_le hk.1
    unfold ofTab
    rw [find_foldTo, if_pos (by omega), hf i (by omega)]
  · rw [find_out ok2 k (by omega), find_out ok k (by omega)]
theorem ofTab_congr (f g : Int → Int) (h : ∀ i : Nat, i < 100 → f i = g i) : ofTab f = ofTab g := foldTo_congr _ _ _ h
theorem find_ofTab (f : Int → Int) (i : Nat) (hi : i < 100) : find (i : Int) (ofTab f) = f i := by unfold ofTab; rw [find_foldTo, if_pos hi]

/-- The error of Patch, and its rows. -/
def patchE (l : List (Int × Int)) (d : List Chg) : Int :=
  if chk l ≠ 0 then chk l else if fine d = false then 1 else if clashF l d = true then 7 else if 40 < (ofTab (tab (fun k => find k l) d)).length then 2 else 0
def patchV (l : List (Int × Int)) (d : List Chg) : List (Int × Int) := if patchE l d = 0 then ofTab (tab (fun k => find k l) d) else []

/-- What goes, and what is put. -/
def gone (c : Chg) : Bool := decide (c.2.2 = -1)
def t1 (f : Int → Int) (d : List Chg) : Int → Int := tab f (d.filter gone)
theorem t1_le (f : Int → Int) (d e : List Chg) (hd : d.Pairwise (fun a b => a.1 < b.1)) (he : e.Sublist d) (k : Int) (h : tab (t1 f d) (e.filter (fun c => !gone c)) k ≠ -1) : tab f d k ≠ -1 := by
  have hdg : (d.filter gone).Pairwise (fun a b => a.1 < b.1) := hd.sublist List.filter_sublist
  have heg : (e.filter (fun c => !gone c)).Pairwise (fun a b => a.1 < b.1) := (hd.sublist he).sublist List.filter_sublist
  rcases tab_cases (t1 f d) _ heg k with ⟨c, hc, e1, e2⟩ | ⟨hno, e2⟩
  · have hcm := List.mem_filter.1 hc
    have hcd : c ∈ d := he.subset hcm.1
    rw [← e1, tab_mem f d hd c hcd]
    have := hcm.2
    unfold gone at this
    simpa using this
  · rw [e2] at h
    rcases tab_cases f _ hdg k with ⟨c, hc, e1, e3⟩ | ⟨hno2, e3⟩
    · have hg := (List.mem_filter.1 hc).2
      unfold gone at hg
      unfold t1 at h
      rw [e3] at h
      simp at hg
      exact absurd hg h
    · rcases tab_cases f d hd k with ⟨c, hc, e1, e4⟩ | ⟨_, e4⟩
      · rw [e4]
        intro hn
        exact hno2 c (List.mem_filter.2 ⟨hc, by unfold gone; simpa using hn⟩) e1
      · rw [e4]; unfold t1 at h; rw [e3] at h; exact h
theorem t1_all (f : Int → Int) (d : List Chg) (hd : d.Pairwise (fun a b => a.1 < b.1)) (k : Int) : tab (t1 f d) (d.filter (fun c => !gone c)) k = tab f d k := by
  have hdg : (d.filter gone).Pairwise (fun a b => a.1 < b.1) := hd.sublist List.filter_sublist
  have heg : (d.filter (fun c => !gone c)).Pairwise (fun a b => a.1 < b.1) := hd.sublist List.filter_sublist
  rcases tab_cases f d hd k with ⟨c, hc, e1, e2⟩ | ⟨hno, e2⟩
  · rw [e2]
    cases hg : gone c with
    | true =>
      have h1 : ∀ q ∈ d.filter (fun c => !gone c), q.1 ≠ k := fun q hq e => by
        have hq2 := List.mem_filter.1 hq
        have h3 := tab_mem f d hd q hq2.1
        have h4 := tab_mem f d hd c hc
        rw [e] at h3
        rw [e1] at h4
        have h5 : q.2.2 = c.2.2 := h3.symm.trans h4
        have h6 := hq2.2
        unfold gone at h6 hg
        rw [h5] at h6
        simp at h6 hg
        exact h6 hg
      rw [tab_none _ _ k h1, ← e1]
      exact tab_mem f _ hdg c (List.mem_filter.2 ⟨hc, hg⟩)
    | false =>
      rw [← e1]
      exact tab_mem _ _ heg c (List.mem_filter.2 ⟨hc, by simp [hg]⟩)
  · rw [e2, tab_none _ _ k (fun q hq => hno q (List.mem_filter.1 hq).1)]
    unfold t1
    exact tab_none _ _ k (fun q hq => hno q (List.mem_filter.1 hq).1)
theorem filter_take (d : List Chg) (p : Chg → Bool) (k : Nat) (h : k < d.length) : (d.take (k + 1)).filter p = (d.take k).filter p ++ if p (d.getD k (0, 0, 0)) = true then [d.getD k (0, 0, 0)] else [] := by
  rw [List.take_succ_eq_append_getElem h, List.filter_append]
  have e : d.getD k (0, 0, 0) = d[k] := by simp [List.getD, h]
  rw [e]
  cases hp : p d[k] <;> simp [hp]

/-! ### three ways -/
/-- What comes of a key. -/
def mval (x y z : Int) : Int := if y = z then y else if y = x then z else y
def mclash (x y z : Int) : Bool := decide (y ≠ z ∧ y ≠ x ∧ z ≠ x)
def mtab (b l m : List (Int × Int)) (k : Int) : Int := mval (find k b) (find k l) (find k m)
def mrows (b l m : List (Int × Int)) : List (Int × Int) := ofTab (mtab b l m)
def mkeys (b l m : List (Int × Int)) : List Int := sel (fun k => mclash (find k b) (find k l) (find k m)) 100
def mergeE (b l m : List (Int × Int)) : Int :=
  if chk b ≠ 0 then chk b else if chk l ≠ 0 then chk l else if chk m ≠ 0 then chk m else if 40 < (mrows b l m).length then 2 else 0

/-- What the second alone has changed. -/
def aloneC (b l m : List (Int × Int)) (x : Int) : Option Chg := if find x b = find x l then some (x, find x b, find x m) else none
def ckeys (b m : List (Int × Int)) : List Int := sel (fun k => decide (find k b ≠ find k m)) 100
def alone (b l m : List (Int × Int)) : List Chg := (ckeys b m).filterMap (aloneC b l m)
theorem mem_alone (b l m : List (Int × Int)) (c : Chg) : c ∈ alone b l m ↔ ∃ k : Nat, k < 100 ∧ find k b ≠ find k m ∧ find k b = find k l ∧ c = ((k : Int), find k b, find k m) := by
  unfold alone ckeys
  rw [List.mem_filterMap]
  constructor
  · rintro ⟨x, hx, hc⟩
    obtain ⟨k, h1, h2, rfl⟩ := (mem_sel _ _ _).1 hx
    unfold aloneC at hc
    split at hc
    · rename_i h3
      exact ⟨k, h1, by simpa using h2, h3, by simpa using hc.symm⟩
    · simp at hc
  · rintro ⟨k, h1, h2, h3, rfl⟩
    exact ⟨(k : Int), (mem_sel _ _ _).2 ⟨k, h1, by simpa using h2, rfl⟩, by unfold aloneC; rw [if_pos h3]⟩
theorem alone_rise (b l m : List (Int × Int)) : (alone b l m).Pairwise (fun a b => a.1 < b.1) := by
  unfold alone
  rw [List.pairwise_filterMap]
  refine (sel_rise _ 100).imp fun {x y} hxy p hp q hq => ?_
  unfold aloneC at hp hq
  split at hp <;> split at hq <;> simp at hp hq
  subst hp hq
  exact hxy
theorem alone_fine {b l m : List (Int × Int)} (hb : Ok b) (hm : Ok m) : Fine (-1) (alone b l m) := by
  refine ⟨fun c hc => ?_, alone_rise b l m⟩
  obtain ⟨k, h1, h2, h3, rfl⟩ := (mem_alone b l m c).1 hc
  have r1 := find_range (key := (k : Int)) hb
  have r2 := find_range (key := (k : Int)) hm
  exact ⟨by show -1 < (k : Int); omega, by show (k : Int) ≤ 99; omega, r1.1, r1.2, r2.1, r2.2, h2⟩
theorem alone_clash (b l m : List (Int × Int)) : clashF l (alone b l m) = false := by
  unfold clashF
  rw [List.any_eq_false]
  intro c hc
  obtain ⟨k, h1, h2, h3, rfl⟩ := (mem_alone b l m c).1 hc
  simp [h3]
theorem alone_tab (b l m : List (Int × Int)) (k : Nat) (hk : k < 100) : tab (fun x => find x l) (alone b l m) (k : Int) = mtab b l m k := by
  unfold mtab mval
  rcases tab_cases (fun x => find x l) _ (alone_rise b l m) (k : Int) with ⟨c, hc, e1, e2⟩ | ⟨hno, e2⟩
  · obtain ⟨j, h1, h2, h3, rfl⟩ := (mem_alone b l m c).1 hc
    have : (j : Int) = (k : Int) := e1
    have : j = k := by omega
    subst this
    rw [e2, if_neg (by omega), if_pos h3.symm]
  · rw [e2]
    by_cases h1 : find (k : Int) l = find (k : Int) m
    · rw [if_pos h1]
    · rw [if_neg h1]
      by_cases h2 : find (k : Int) l = find (k : Int) b
      · exact absurd rfl (hno _ ((mem_alone b l m _).2 ⟨k, hk, by omega, h2.symm, rfl⟩))
      · rw [if_neg h2]
theorem alone_patch {b l m : List (Int × Int)} (hb : chk b = 0) (hl : chk l = 0) (hm : chk m = 0) : patchE l (alone b l m) = mergeE b l m ∧ ofTab (tab (fun k => find k l) (alone b l m)) = mrows b l m := by
  have e : ofTab (tab (fun k => find k l) (alone b l m)) = mrows b l m := ofTab_congr _ _ fun i hi => alone_tab b l m i hi
  refine ⟨?_, e⟩
  unfold patchE mergeE
  rw [e, hl, hb, hm, (fine_iff _).2 (alone_fine ((chk_zero b).1 hb).2 ((chk_zero m).1 hm).2), alone_clash]
  simp
/-- What clashes is among what the second has changed. -/
theorem ckeys_filter (b l m : List (Int × Int)) (n : Nat) : (sel (fun k => decide (find (k : Int) b ≠ find (k : Int) m)) n).filter (fun x => mclash (find x b) (find x l) (find x m)) = sel (fun k => mclash (find k b) (find k l) (find k m)) n := by
  induction n with
  | zero => rfl
  | succ n ih =>
    rw [sel, sel]
    by_cases h : find (n : Int) b ≠ find (n : Int) m
    · rw [if_pos (by simpa using h), List.filter_append, ih]
      cases hc : mclash (find (n : Int) b) (find (n : Int) l) (find (n : Int) m)
      · rw [if_neg (by simp)]; simp [hc]
      · rw [if_pos rfl]; simp [hc]
    · rw [if_neg (by simpa using h), ih, if_neg]
      unfold mclash
      simp at h ⊢
      omega
end Go.Proofs.YtcgpgflnihjpiafGreat.M

/- Changes in memory, and changes appended to a row of the call's own. -/
namespace Go.Proofs.YtcgpgflnihjpiafGreat
open Go.RowKit

/-- The slice at a, of n changes, holds the changes l. -/
def Rc (w : World) (a : Option Addr) (n : Nat) (l : List M.Chg) : Prop :=
  l.length = n ∧ (n = 0 ∨ ∃ b off, a = some ⟨b, off, none⟩ ∧ b < w.heap.size ∧ ∀ i, i < n → w.cell? ⟨b, off + i * 3, none⟩ = some (.int .i64 (l.getD i (0, 0, 0)).1) ∧ w.cell? ⟨b, off + i * 3 + 1, none⟩ = some (.int .i64 (l.getD i (0, 0, 0)).2.1) ∧ w.cell? ⟨b, off + i * 3 + 2, none⟩ = some (.int .i64 (l.getD i (0, 0, 0)).2.2))
theorem Rc.below {w w' : World} {a : Option Addr} {n : Nat} {l : List M.Chg} (h : Rc w a n l) {B : Nat} (hb : Below B w w') (hB : w.heap.size ≤ B) : Rc w' a n l := by
  obtain ⟨h1, h2⟩ := h
  refine ⟨h1, ?_⟩
  rcases h2 with h2 | ⟨b, off, ha, hlt, hc⟩
  · exact Or.inl h2
  · refine Or.inr ⟨b, off, ha, Nat.lt_of_lt_of_le hlt hb.size, fun i hi => ?_⟩
    rw [hb.cell (p := ⟨b, off + i * 3, none⟩) (by show b < B; omega), hb.cell (p := ⟨b, off + i * 3 + 1, none⟩) (by show b < B; omega), hb.cell (p := ⟨b, off + i * 3 + 2, none⟩) (by show b < B; omega)]
    exact hc i hi
theorem Rc.cases {w : World} {a : Option Addr} {n : Nat} {l : List M.Chg} (h : Rc w a n l) : (n = 0 ∧ l = []) ∨ ∃ b off, a = some ⟨b, off, none⟩ ∧ 0 < n ∧ l.length = n ∧ b < w.heap.size ∧ ∀ i, i < n → w.cell? ⟨b, off + i * 3, none⟩ = some (.int .i64 (l.getD i (0, 0, 0)).1) ∧ w.cell? ⟨b, off + i * 3 + 1, none⟩ = some (.int .i64 (l.getD i (0, 0, 0)).2.1) ∧ w.cell? ⟨b, off + i * 3 + 2, none⟩ = some (.int .i64 (l.getD i (0, 0, 0)).2.2) := by
  obtain ⟨h1, h2⟩ := h
  by_cases hn : n = 0
  · exact Or.inl ⟨hn, List.eq_nil_of_length_eq_zero (by omega)⟩
  · rcases h2 with h2 | ⟨b, off, ha, hlt, hc⟩
    · exact absurd h2 hn
    · exact Or.inr ⟨b, off, ha, by omega, h1, hlt, hc⟩

/-- A change as a value. -/
def cval (c : M.Chg) : Value := .agg #[.int .i64 c.1, .int .i64 c.2.1, .int .i64 c.2.2]
def encC (l : List M.Chg) : List Value := l.flatMap fun c => [.int .i64 c.1, .int .i64 c.2.1, .int .i64 c.2.2]
theorem encC_length (l : List M.Chg) : (encC l).length = l.length * 3 := by
  induction l with
  | nil => rfl
  | cons r t ih => simp [encC] at ih ⊢; omega
theorem encC_append (a b : List M.Chg) : encC (a ++ b) = encC a ++ encC b := by simp [encC]
theorem encC_cons (r : M.Chg) (t : List M.Chg) : encC (r :: t) = .int .i64 r.1 :: .int .i64 r.2.1 :: .int .i64 r.2.2 :: encC t := by simp [encC]
theorem encC_at (l : List M.Chg) (i : Nat) (h : i < l.length) : (encC l)[i * 3]? = some (.int .i64 (l.getD i (0, 0, 0)).1) ∧ (encC l)[i * 3 + 1]? = some (.int .i64 (l.getD i (0, 0, 0)).2.1) ∧ (encC l)[i * 3 + 2]? = some (.int .i64 (l.getD i (0, 0, 0)).2.2) := by
  induction l generalizing i with
  | nil => simp at h
  | cons r t ih =>
    rw [encC_cons]
    cases i with
    | zero => simp
    | succ i =>
      have := ih i (by simpa using h)
      rw [show (i + 1) * 3 = i * 3 + 1 + 1 + 1 by omega]
      simpa using this
theorem encC_one (l : List M.Chg) : ∀ u ∈ encC l, u.oneCell' = true := by
  intro u hu
  simp only [encC, List.mem_flatMap] at hu
  obtain ⟨r, _, h⟩ := hu
  simp at h
  rcases h with rfl | rfl | rfl <;> rfl
/-- The changes l lie in a row of the call's own. -/
def OwnC (w : World) (base : Nat) (v : Value) (l : List M.Chg) : Prop := w.ownsRow base 69 3 v l.length (encC l)
theorem OwnC.nil (w : World) (base : Nat) : OwnC w base (.slice none 0 0) [] := World.ownsRow_nil _ _ _ _
theorem OwnC.mono {w : World} {base base' : Nat} {v : Value} {l : List M.Chg} (h : OwnC w base v l) (hb : base' ≤ base) : OwnC w base' v l := by
  obtain ⟨h1, h2⟩ := h
  refine ⟨h1, ?_⟩
  rcases h2 with h2 | ⟨g, cap, cur, hv, hg, r⟩
  · exact Or.inl h2
  · exact Or.inr ⟨g, cap, cur, hv, Nat.le_trans hb hg, r⟩
theorem OwnC.below {w w' : World} {base : Nat} {v : Value} {l : List M.Chg} (h : OwnC w base v l) (hb : Below w.heap.size w w') : OwnC w' base v l := by
  obtain ⟨h1, h2⟩ := h
  refine ⟨h1, ?_⟩
  rcases h2 with h2 | ⟨g, cap, cur, hv, hg, hh, r⟩
  · exact Or.inl h2
  · exact Or.inr ⟨g, cap, cur, hv, hg, (hb.block g (Array.getElem?_eq_some_iff.1 hh).1).trans hh, r⟩
theorem OwnC.rc {w : World} {base : Nat} {v : Value} {l : List M.Chg} (h : OwnC w base v l) : ∃ a cap, v = .slice a l.length cap ∧ Rc w a l.length l ∧ l.length ≤ cap ∧ cap ≤ maxLen := by
  have h0 := h
  obtain ⟨h1, h2⟩ := h
  rcases h2 with ⟨rfl, hn⟩ | ⟨g, cap, cur, rfl, hb, hh, hc, hm, hs, hx⟩
  · exact ⟨none, 0, by rw [hn], ⟨rfl, Or.inl hn⟩, by omega, by simp [maxLen]⟩
  · refine ⟨_, cap, rfl, ⟨rfl, ?_⟩, hc, hm⟩
    have hlt : g < w.heap.size := (Array.getElem?_eq_some_iff.1 hh).1
    refine Or.inr ⟨g, 0, rfl, hlt, fun i hi => ?_⟩
    have e := encC_at l i hi
    rw [World.ownsRow.cellAt h0 (0 + i * 3) (by omega), World.ownsRow.cellAt h0 (0 + i * 3 + 1) (by omega), World.ownsRow.cellAt h0 (0 + i * 3 + 2) (by omega), Nat.zero_add]
    exact e
/-- Rows of two kinds lie in two blocks. -/
theorem apart_rows {w : World} {b1 b2 : Nat} {t1 t2 : TypeId} {s1 s2 n1 n2 : Nat} {v1 v2 : Value} {x1 x2 : List Value} (h1 : w.ownsRow b1 t1 s1 v1 n1 x1) (h2 : w.ownsRow b2 t2 s2 v2 n2 x2) (hne : t1 ≠ t2) : ∀ k, v1.ownBlock = some k → v2.ownBlock ≠ some k := by
  intro k e1 e2
  obtain ⟨_, k1⟩ := h1
  obtain ⟨_, k2⟩ := h2
  rcases k1 with ⟨rfl, _⟩ | ⟨g, cap, cur, rfl, _, hh, _⟩
  · simp [Value.ownBlock] at e1
  · rcases k2 with ⟨rfl, _⟩ | ⟨g2, cap2, cur2, rfl, _, hh2, _⟩
    · simp [Value.ownBlock] at e2
    · simp [Value.ownBlock] at e1 e2
      subst e1
      rw [e2] at hh2
      rw [hh2] at hh
      simp at hh
      exact hne hh.2.symm
theorem keep_row {w w' : World} {b : Nat} {t : TypeId} {s n : Nat} {v : Value} {x : List Value} (h : w.ownsRow b t s v n x) (hk : ∀ k, k < w.heap.size → v.ownBlock = some k → w'.heap[k]? = w.heap[k]?) : w'.ownsRow b t s v n x := by
  obtain ⟨h1, h2⟩ := h
  refine ⟨h1, ?_⟩
  rcases h2 with h2 | ⟨g, cap, cur, hv, hg, hh, r⟩
  · exact Or.inl h2
  · exact Or.inr ⟨g, cap, cur, hv, hg, (hk g (Array.getElem?_eq_some_iff.1 hh).1 (by rw [hv]; rfl)).trans hh, r⟩

theorem infoChange : (Tryz.prog.info? 69).map (fun i => (i.zero, i.size, i.bytes)) = some (some (.agg #[.int .i64 0, .int .i64 0, .int .i64 0]), 3, 24) := by kernel_rfl
theorem append_rc {w : World} {ops : Array Oper} {rest : List Oper} {o : Oper} {a : Act} {Q : Exit → Act → World → Prop} (hgd : o.guard = none) (s x : Operand)
    (ho : o.op = .call { callee := .builtin .append, args := #[s, x], argTypes := #[26, 26] })
    (base : Nat) (v : Value) (l : List M.Chg) (hs : a.eval s = v) (hown : OwnC w base v l)
    (b m c : Nat) (l2 : List M.Chg) (hx : a.eval x = .slice (some ⟨b, 0, none⟩) m c) (hl2 : l2.length = m)
    (hc : ∀ i, i < m → w.cell? ⟨b, 0 + i * 3, none⟩ = some (.int .i64 (l2.getD i (0, 0, 0)).1) ∧ w.cell? ⟨b, 0 + i * 3 + 1, none⟩ = some (.int .i64 (l2.getD i (0, 0, 0)).2.1) ∧ w.cell? ⟨b, 0 + i * 3 + 2, none⟩ = some (.int .i64 (l2.getD i (0, 0, 0)).2.2))
    (hbig : l.length + m ≤ 1000000) (hbase : base ≤ w.heap.size)
    (h : ∀ v' w', OwnC w' base v' (l ++ l2) → Below base w w' → (∀ k, k < w.heap.size → v.ownBlock ≠ some k → w'.heap[k]? = w.heap[k]?) → wpList Tryz.prog ops Q rest (a.put o.dst v') w') : wpList Tryz.prog ops Q (o :: rest) a w := by
  obtain ⟨i0, hi, hz0, hz1, hz2⟩ := info_parts infoChange
  have hnews : ∀ j u, (encC l2)[j]? = some u → w.cell? ((⟨b, 0, none⟩ : Addr).add j) = some u := by
    intro j u hj
    have hjl : j < (encC l2).length := (List.getElem?_eq_some_iff.1 hj).1
    rw [encC_length, hl2] at hjl
    have hi2 : j / 3 < m := by omega
    have e := encC_at l2 (j / 3) (by omega)
    have q := hc (j / 3) hi2
    rw [Addr.add_lit]
    have h3 : j % 3 = 0 ∨ j % 3 = 1 ∨ j % 3 = 2 := by omega
    rcases h3 with h3 | h3 | h3
    · have ej : j = j / 3 * 3 := by omega
      rw [ej] at hj ⊢
      rw [e.1] at hj
      rw [← hj]; exact q.1
    · have ej : j = j / 3 * 3 + 1 := by omega
      rw [ej] at hj ⊢
      rw [e.2.1] at hj
      rw [← hj, ← Nat.add_assoc]; exact q.2.1
    · have ej : j = j / 3 * 3 + 2 := by omega
      rw [ej] at hj ⊢
      rw [e.2.2] at hj
      rw [← hj, ← Nat.add_assoc]; exact q.2.2
  refine wpList_append_own _ hgd s x 26 ho base 69 i0 (.agg #[.int .i64 0, .int .i64 0, .int .i64 0]) 3 24 Tryz.underlying26 hi hz0 hz1 hz2 rfl (by decide) v l.length (encC l) hs hown ⟨b, 0, none⟩ m c (encC l2) hx (by rw [encC_length, hl2]) hnews (encC_one l2)
    (by simp only [maxLen]; omega) (by omega) hbase ?_
  intro v' w' h1 h2 _
  refine h v' w' ?_ ((Below.refl _ _).grown h2 hbase fun k hk => (World.ownsRow.lt hown k hk).1) (fun k hk hne => h2.block k hk (fun e => hne e.symm))
  unfold OwnC
  rw [encC_append, List.length_append, hl2]
  exact h1
theorem rc_one (w : World) (x y z : Int) : ∀ i, i < 1 → (w.alloc (.cells #[.int .i64 x, .int .i64 y, .int .i64 z] 69)).cell? ⟨w.heap.size, 0 + i * 3, none⟩ = some (.int .i64 (([(x, y, z)] : List M.Chg).getD i (0, 0, 0)).1) ∧ (w.alloc (.cells #[.int .i64 x, .int .i64 y, .int .i64 z] 69)).cell? ⟨w.heap.size, 0 + i * 3 + 1, none⟩ = some (.int .i64 (([(x, y, z)] : List M.Chg).getD i (0, 0, 0)).2.1) ∧ (w.alloc (.cells #[.int .i64 x, .int .i64 y, .int .i64 z] 69)).cell? ⟨w.heap.size, 0 + i * 3 + 2, none⟩ = some (.int .i64 (([(x, y, z)] : List M.Chg).getD i (0, 0, 0)).2.2) := by
  intro i hi
  obtain rfl : i = 0 := by omega
  refine ⟨?_, ?_, ?_⟩ <;> simp [go_sem]
end Go.Proofs.YtcgpgflnihjpiafGreat

/- The reader of bytes: changes, and lists of them. -/
namespace Go.Proofs.YtcgpgflnihjpiafGreat
open Go.RowKit

def isChg (c : M.Chg) (v : Value) (_ : World) : Prop := v = cval c
theorem M.rC_at {l l1 : M.By} {k : Int} (h : M.rB l = some (k, l1)) : M.rC l = (match M.r2 l1 with | none => none | some (o, l2) => match M.r2 l2 with | none => none | some (n, l3) => some ((k, o - 1, n - 1), l3)) := by
  unfold M.rC; rw [h]; rfl
theorem M.rC_no {l : M.By} (h : M.rB l = none) : M.rC l = none := by unfold M.rC; rw [h]

set_option maxRecDepth 100000 in
set_option maxHeartbeats 4000000 in
theorem rchange_any (b : Nat) (l : M.By) (w : World) (h : RdAt w b l) :
    Calls Tryz.prog 112 #[.pointer (some ⟨b, 0, none⟩)] w fun e w' => Reads b w w' (M.rC l) isChg e := by
  obtain ⟨R, hR⟩ : ∃ R, R = w.heap.size := ⟨_, rfl⟩
  obtain ⟨W, hW⟩ : ∃ W, W = w.alloc (.cells #[.int .i64 0, .int .i64 0, .int .i64 0] 69) := ⟨_, rfl⟩
  have hb0 : But b w W := by rw [hW]; exact But.alloc _ _ _
  have q0 : W.heap[R]? = some (.cells #[.int .i64 0, .int .i64 0, .int .i64 0] 69 (0, 0)) := by rw [hW, hR]; exact heap_alloc_new _ _
  have hlt := h.lt
  have hW0 : RdAt W b l := h.later (by rw [hW]; exact (Below.refl _ _).alloc (Nat.le_refl _) _)
  have hbR : b ≠ R := by omega
  have HBR : Aside (b ≠ R) := hbR
  have K : Hid (Calls Tryz.prog 109 #[.pointer (some ⟨b, 0, none⟩)] W fun e w' => Reads b W w' (M.rB l) isInt e) := byte_any b l W hW0
  have HQ : Hid (W.heap[R]? = some (.cells #[.int .i64 0, .int .i64 0, .int .i64 0] 69 (0, 0))) := q0
  have HW : Hid (W = w.alloc (.cells #[.int .i64 0, .int .i64 0, .int .i64 0] 69)) := hW
  have HR : Aside (R = w.heap.size) := hR
  clear h hW hR q0 hW0 hlt hbR
  go_enter Tryz.func112, Tryz.ntmps112
  go_wp2_with fail
  rw [← HW.out, ← HR.out]
  refine K.out.mono ?_
  rintro e w1 ⟨hb1, ⟨k, l1, v, h1, rfl, rfl, hr⟩ | ⟨h1, rfl⟩⟩
  case inr =>
    have H1 : Hid (M.rB l = none) := h1
    clear h1 K
    unfold early
    go_wp2
    exact ⟨rfl, hb0.trans hb1, Or.inr ⟨M.rC_no H1.out, rfl⟩⟩
  have H1 : Hid (M.rC l = (match M.r2 l1 with | none => none | some (o, l2) => match M.r2 l2 with | none => none | some (n, l3) => some ((k, o - 1, n - 1), l3))) := M.rC_at h1
  have K2 : Hid (Calls Tryz.prog 130 #[.pointer (some ⟨b, 0, none⟩)] w1 fun e w' => Reads b w1 w' (M.r2 l1) isInt e) := pair_any b l1 w1 hr
  have hc1 := hb0.trans hb1
  clear h1 hr K
  go_wp2_with fail
  refine K2.out.mono ?_
  rintro e w2 ⟨hb2, ⟨o, l2, v, h2, rfl, rfl, hr⟩ | ⟨h2, rfl⟩⟩
  case inr =>
    have H2 : Hid (M.r2 l1 = none) := h2
    clear h2 K2
    unfold early
    go_wp2
    exact ⟨rfl, hc1.trans hb2, Or.inr ⟨by rw [H1.out, H2.out], rfl⟩⟩
  have ho := M.r2_range h2
  have hw1 : IntKind.i64.wrap (o - 1) = o - 1 := by rw [IntKind.wrap_i64]; omega
  have H2 : Hid (M.r2 l1 = some (o, l2)) := h2
  have K3 : Hid (Calls Tryz.prog 130 #[.pointer (some ⟨b, 0, none⟩)] w2 fun e w' => Reads b w2 w' (M.r2 l2) isInt e) := pair_any b l2 w2 hr
  have hc2 := hc1.trans hb2
  clear h2 hr K2
  go_wp2_with fail
  refine K3.out.mono ?_
  rintro e w3 ⟨hb3, ⟨n, l3, v, h3, rfl, rfl, hr⟩ | ⟨h3, rfl⟩⟩
  case inr =>
    have H3 : Hid (M.r2 l2 = none) := h3
    clear h3 K3
    unfold early
    go_wp2
    exact ⟨rfl, hc2.trans hb3, Or.inr ⟨by rw [H1.out, H2.out]; simp only; rw [H3.out], rfl⟩⟩
  have hn := M.r2_range h3
  have hw2 : IntKind.i64.wrap (n - 1) = n - 1 := by rw [IntKind.wrap_i64]; omega
  have H3 : Hid (M.r2 l2 = some (n, l3)) := h3
  have hc3 := hc2.trans hb3
  have q3 : w3.heap[R]? = some (.cells #[.int .i64 0, .int .i64 0, .int .i64 0] 69 (0, 0)) := (((hb1.trans hb2).trans hb3).block R (Array.getElem?_eq_some_iff.1 HQ.out).1 (fun e => HBR.out (Option.some.inj e).symm)).trans HQ.out
  have y0 : w3.cell? ⟨R, 0, none⟩ = some (.int .i64 0) := by rw [cell_of_row _ _ _ _ _ _ q3]; rfl
  have y1 : w3.cell? ⟨R, 1, none⟩ = some (.int .i64 0) := by rw [cell_of_row _ _ _ _ _ _ q3]; rfl
  have y2 : w3.cell? ⟨R, 2, none⟩ = some (.int .i64 0) := by rw [cell_of_row _ _ _ _ _ _ q3]; rfl
  have f0 : w3.frozen? ⟨R, 0, none⟩ = false := frozen_of_row _ _ _ _ _ q3
  have f1 : w3.frozen? ⟨R, 1, none⟩ = false := frozen_of_row _ _ _ _ _ q3
  have f2 : w3.frozen? ⟨R, 2, none⟩ = false := frozen_of_row _ _ _ _ _ q3
  obtain ⟨X, hX⟩ : ∃ X, X = ((w3.setCell ⟨R, 0, none⟩ (.int .i64 k)).setCell ⟨R, 1, none⟩ (.int .i64 (o - 1))).setCell ⟨R, 2, none⟩ (.int .i64 (n - 1)) := ⟨_, rfl⟩
  have qX : X.heap[R]? = some (.cells #[.int .i64 k, .int .i64 (o - 1), .int .i64 (n - 1)] 69 (0, 0)) := by
    rw [hX, heap_setCell_same _ _ _ _ _ _ (heap_setCell_same _ _ _ _ _ _ (heap_setCell_same _ _ _ _ _ _ q3))]; rfl
  have HX : Hid (X = ((w3.setCell ⟨R, 0, none⟩ (.int .i64 k)).setCell ⟨R, 1, none⟩ (.int .i64 (o - 1))).setCell ⟨R, 2, none⟩ (.int .i64 (n - 1))) := hX
  have HRX : Hid (RdAt X b l3) := by unfold Hid; rw [hX]; exact ((hr.other HBR.out _).other HBR.out _).other HBR.out _
  have HBX : Hid (But b w X) := by unfold Hid; rw [hX]; exact ((hc3.setNew (Nat.le_of_eq HR.out.symm) _).setNew (Nat.le_of_eq HR.out.symm) _).setNew (Nat.le_of_eq HR.out.symm) _
  have HX0 : Aside (X.cell? ⟨R, 0, none⟩ = some (.int .i64 k) ∧ X.cell? ⟨R, 1, none⟩ = some (.int .i64 (o - 1)) ∧ X.cell? ⟨R, 2, none⟩ = some (.int .i64 (n - 1))) := ⟨by rw [cell_of_row _ _ _ _ _ _ qX]; rfl, by rw [cell_of_row _ _ _ _ _ _ qX]; rfl, by rw [cell_of_row _ _ _ _ _ _ qX]; rfl⟩
  clear h3 hr K3 q3 qX hX
  go_wp2
  rw [← HX.out]
  obtain ⟨z0, z1, z2⟩ := HX0.out
  refine bodyPost_ret (v := .agg #[.int .i64 k, .int .i64 (o - 1), .int .i64 (n - 1)]) (by simp [results, Tryz.results112, go_sem, z0, z1, z2]) rfl ?_
  exact ⟨HBX.out, Or.inl ⟨(k, o - 1, n - 1), l3, _, by rw [H1.out, H2.out]; simp only; rw [H3.out], rfl, rfl, HRX.out⟩⟩

def isChgs (base : Nat) (xs : List M.Chg) (v : Value) (w : World) : Prop := OwnC w base v xs
set_option maxRecDepth 100000 in
set_option maxHeartbeats 4000000 in
theorem lchange_any (b : Nat) (l : M.By) (w : World) (h : RdAt w b l) :
    Calls Tryz.prog 111 #[.pointer (some ⟨b, 0, none⟩), .func (.func 112) #[] #[]] w fun e w' => Reads b w w' (M.rL M.rC l) (isChgs w.heap.size) e := by
  have K : Hid (Calls Tryz.prog 109 #[.pointer (some ⟨b, 0, none⟩)] w fun e w' => Reads b w w' (M.rB l) isInt e) := byte_any b l w h
  have hlt := h.lt
  clear h
  go_enter Tryz.func111, Tryz.ntmps111
  go_wp2_with fail
  refine K.out.mono ?_
  rintro e w1 ⟨hb1, ⟨k, l1, v, h1, rfl, rfl, hr⟩ | ⟨h1, rfl⟩⟩
  case inr =>
    have H1 : Hid (M.rB l = none) := h1
    clear h1 K
    unfold early
    go_wp2
    exact ⟨rfl, hb1, Or.inr ⟨by unfold M.rL; rw [H1.out], rfl⟩⟩
  have hk := M.rB_range h1
  obtain ⟨n, rfl⟩ : ∃ n : Nat, k = (n : Int) := ⟨k.toNat, by omega⟩
  have H1 : Hid (M.rL M.rC l = M.rN M.rC n l1) := by unfold Hid M.rL; rw [h1]; rfl
  have hn : n < 256 := by omega
  have HR0 : Aside (RdAt w1 b l1) := hr
  clear h1 hr K hk
  go_wp2_with fail
  go_loopg [8, 5] n (fun g i v wr => ∃ (k : Nat) (xs : List M.Chg) (t : M.By), k + g = n ∧ i = .int .i64 k ∧ Aside (M.rN M.rC k l1 = some (xs, t)) ∧ Aside (xs.length = k) ∧ Aside (OwnC wr w.heap.size v xs) ∧ Aside (RdAt wr b t) ∧ But b w wr)
  case atStart => exact ⟨0, [], l1, by omega, rfl, rfl, rfl, OwnC.nil _ _, HR0, hb1⟩
  case round =>
    obtain ⟨k, xs, t, hkg, rfl, HN, HL, HO, HRt, hbw⟩ := hrel
    by_cases hkn : k < n
    · have hki : (k : Int) < (n : Int) := by omega
      have K2 : Hid (Calls Tryz.prog 112 #[.pointer (some ⟨b, 0, none⟩)] wr fun e w' => Reads b wr w' (M.rC t) isChg e) := rchange_any b t wr HRt.out
      go_wp2_with fail
      refine K2.out.mono ?_
      rintro e w2 ⟨hb2, ⟨c, t2, v, h2, rfl, rfl, hr⟩ | ⟨h2, rfl⟩⟩
      · have HN2 : Aside (M.rN M.rC (k + 1) l1 = some (xs ++ [c], t2)) := by unfold Aside; rw [M.rN_snoc, HN.out]; simp only; rw [h2]
        have HL2 : Aside ((xs ++ [c]).length = k + 1) := by unfold Aside; rw [List.length_append, HL.out]; rfl
        obtain ⟨c0, c1, c2⟩ := c
        have hs2 : w.heap.size ≤ w2.heap.size := (hbw.trans hb2).size
        have HOA : Hid (OwnC (w2.alloc (.cells #[.int .i64 c0, .int .i64 c1, .int .i64 c2] 69)) w.heap.size u5 xs) := World.ownsRow.alloc (ownsRow_but HO.out hb2 hlt) _
        have HR2 : Hid (RdAt w2 b t2) := hr
        have hbig : xs.length + 1 ≤ 1000000 := by rw [HL.out]; omega
        clear h2 hr K2
        unfold cval
        go_wp2_with (at_builtin; refine append_rc rfl _ _ rfl w.heap.size _ xs rfl HOA.out w2.heap.size 1 1 [(c0, c1, c2)] rfl rfl (rc_one w2 _ _ _) hbig (by simp; omega) ?_)
        intro v' w3 ho' hb4 _
        have qb3 : Below w.heap.size w2 w3 := ((Below.refl _ _).alloc hs2 _).trans hb4
        have HO3 : Aside (OwnC w3 w.heap.size v' (xs ++ [(c0, c1, c2)])) := ho'
        have HR3 : Aside (RdAt w3 b t2) := HR2.out.keep qb3 hlt
        have hbw3 : But b w w3 := (hbw.trans hb2).then qb3
        clear ho' hb4 HOA qb3
        go_wp2
        go_roundg (gk - 1)
        case measure => omega
        case rel => exact ⟨k + 1, _, t2, by omega, by go_num, HN2, HL2, HO3, HR3, hbw3⟩
      · have H2 : Hid (M.rN M.rC n l1 = none) := by
          have : M.rN M.rC (k + 1) l1 = none := by rw [M.rN_snoc, HN.out]; simp only; rw [h2]
          exact M.rN_none _ _ _ _ this (by omega)
        clear h2 K2
        unfold early
        go_wp2
        exact ⟨rfl, hbw.trans hb2, Or.inr ⟨by rw [H1.out, H2.out], rfl⟩⟩
    · obtain rfl : k = n := by omega
      have hkk2 : decide ((k : Int) < (k : Int)) = false := by simp
      go_wp2
      go_ret
      exact ⟨hbw, Or.inl ⟨xs, t, _, by rw [H1.out]; exact HN.out, rfl, HO.out, HRt.out⟩⟩
end Go.Proofs.YtcgpgflnihjpiafGreat

/- An act's values. -/
namespace Go.Proofs.YtcgpgflnihjpiafGreat
/-- An act's values. -/
def actV (x : M.Act) (a : Option Addr) (m cap : Nat) : Value := .agg #[.int .i64 x.kind, .string (M.str x.one), .string (M.str x.two), .slice a m cap]
end Go.Proofs.YtcgpgflnihjpiafGreat
