/- three.changes, three.part. -/
import Derived.Test.YtcgpgflnihjpiadKeys
import Derived.Test.YtcgpgflnihjpiadCh1
import Derived.Test.YtcgpgflnihjpiadFindA
namespace Go.Proofs.Ytcgpgflnihjpiad
open Go.RowKit Go.Maps

/-- The changes from rows to others, by their keys, up to one. -/
def cfun (b m : List (Int × Int)) (n : Nat) : Int → Option Value := fun x => if 0 ≤ x ∧ x < (n : Int) ∧ M.find x b ≠ M.find x m then some (cval (x, M.find x b, M.find x m)) else none
theorem cfun_zero (b m : List (Int × Int)) : cfun b m 0 = fun _ => none := by
  funext x; unfold cfun; rw [if_neg (by omega)]
theorem cfun_more (b m : List (Int × Int)) (n : Nat) (h : M.find (n : Int) b ≠ M.find (n : Int) m) : upd (cfun b m n) (n : Int) (cval ((n : Int), M.find n b, M.find n m)) = cfun b m (n + 1) := by
  funext x
  unfold upd cfun
  by_cases e : x = (n : Int)
  · subst e; rw [if_pos rfl, if_pos ⟨by omega, by omega, h⟩]
  · rw [if_neg e]
    by_cases h2 : 0 ≤ x ∧ x < (n : Int) ∧ M.find x b ≠ M.find x m
    · rw [if_pos h2, if_pos ⟨h2.1, by omega, h2.2.2⟩]
    · rw [if_neg h2, if_neg (fun h3 => h2 ⟨h3.1, by omega, h3.2.2⟩)]
theorem cfun_same (b m : List (Int × Int)) (n : Nat) (h : M.find (n : Int) b = M.find (n : Int) m) : cfun b m n = cfun b m (n + 1) := by
  funext x
  unfold cfun
  by_cases h2 : 0 ≤ x ∧ x < (n : Int) ∧ M.find x b ≠ M.find x m
  · rw [if_pos h2, if_pos ⟨h2.1, by omega, h2.2.2⟩]
  · rw [if_neg h2, if_neg (fun h3 => h2 ⟨h3.1, by
      have : x ≠ (n : Int) := fun e => h3.2.2 (by rw [e]; exact h)
      omega, h3.2.2⟩)]
theorem cfun_dom (b m : List (Int × Int)) (n : Nat) (x : Int) (h : (cfun b m n x).isSome = true) : 0 ≤ x ∧ x < (n : Int) := by
  unfold cfun at h
  split at h
  · rename_i h2; exact ⟨h2.1, h2.2.1⟩
  · simp at h
theorem cfun_at (b m : List (Int × Int)) (n k : Nat) (hk : k < n) : cfun b m n (k : Int) = if M.find (k : Int) b ≠ M.find (k : Int) m then some (cval ((k : Int), M.find k b, M.find k m)) else none := by
  unfold cfun
  by_cases h : M.find (k : Int) b ≠ M.find (k : Int) m
  · rw [if_pos h, if_pos ⟨by omega, by omega, h⟩]
  · rw [if_neg h, if_neg (fun h2 => h h2.2.2)]

theorem changes_bad1 (a a2 : Option Addr) (n n2 cap cap2 : Nat) (b : List (Int × Int)) (w : World) (h : Rd w a n b) (hm : n ≤ 9223372036854775807) (hz : M.chk b ≠ 0) :
    Calls Try.prog 44 #[.slice a n cap, .slice a2 n2 cap2] w fun e w' => e = .returned (.tuple #[.map none, .int .i64 (M.chk b)]) ∧ Below w.heap.size w w' := by
  have hb0 : Below w.heap.size w (w.alloc (.map #[] 0)) := (Below.refl _ _).alloc (Nat.le_refl _) _
  have H := find_any a n cap b 0 (w.alloc (.map #[] 0)) (h.below hb0 (Nat.le_refl _)) hm
  rw [M.findV_no (by rw [M.asked_bad hz]; exact hz), M.asked_bad hz] at H
  obtain ⟨c, hc⟩ : ∃ c, c = M.chk b := ⟨_, rfl⟩
  rw [← hc] at H hz ⊢
  have hne : (c != 0) = true := by simp [hz]
  have HH : Hid (Calls Try.prog 18 #[.slice a n cap, .int .i64 0] (w.alloc (.map #[] 0)) fun e w' => e = .returned (.tuple #[.int .i64 0, .int .i64 c]) ∧ Below (w.alloc (.map #[] 0)).heap.size (w.alloc (.map #[] 0)) w') := H
  have hmm := @run_makeMap Try.prog
  clear H hz hc h
  go_enter Try.func44, Try.ntmps44
  go_wp2
  refine wp_loop_rounds 1 ?_
  rw [rounds_succ]
  go_wp2_with fail
  refine HH.out.mono ?_
  rintro e w1 ⟨rfl, hb1⟩
  go_wp2
  go_ret2
  exact ⟨rfl, hb0.trans (hb1.mono hb0.size)⟩

theorem changes_bad2 (a a2 : Option Addr) (n n2 cap cap2 : Nat) (b m : List (Int × Int)) (w : World) (h : Rd w a n b) (h2 : Rd w a2 n2 m) (hn : n ≤ 9223372036854775807) (hn2 : n2 ≤ 9223372036854775807) (hz : M.chk b = 0) (hz2 : M.chk m ≠ 0) :
    Calls Try.prog 44 #[.slice a n cap, .slice a2 n2 cap2] w fun e w' => e = .returned (.tuple #[.map none, .int .i64 (M.chk m)]) ∧ Below w.heap.size w w' := by
  have hb0 : Below w.heap.size w (w.alloc (.map #[] 0)) := (Below.refl _ _).alloc (Nat.le_refl _) _
  have H := find_any a n cap b 0 (w.alloc (.map #[] 0)) (h.below hb0 (Nat.le_refl _)) hn
  rw [M.asked_ok hz (by omega) (by omega)] at H
  obtain ⟨v, hv⟩ : ∃ v, v = M.findV b 0 := ⟨_, rfl⟩
  rw [← hv] at H
  have HH : Hid (Calls Try.prog 18 #[.slice a n cap, .int .i64 0] (w.alloc (.map #[] 0)) fun e w' => e = .returned (.tuple #[.int .i64 v, .int .i64 0]) ∧ Below (w.alloc (.map #[] 0)).heap.size (w.alloc (.map #[] 0)) w') := H
  have H2 : Hid (Rd w a2 n2 m) := h2
  obtain ⟨c, hc⟩ : ∃ c, c = M.chk m := ⟨_, rfl⟩
  have HC : Hid (c = M.chk m) := hc
  rw [← hc] at hz2 ⊢
  have hne : (c != 0) = true := by simp [hz2]
  have HNZ : Hid (c ≠ 0) := hz2
  have hmm := @run_makeMap Try.prog
  clear H hz hz2 h h2 hv hc
  go_enter Try.func44, Try.ntmps44
  go_wp2
  refine wp_loop_rounds 1 ?_
  rw [rounds_succ]
  go_wp2_with fail
  refine HH.out.mono ?_
  rintro e w1 ⟨rfl, hb1⟩
  have hb2 : Below w.heap.size w w1 := hb0.trans (hb1.mono hb0.size)
  have K := find_any a2 n2 cap2 m 0 w1 (H2.out.below hb2 (Nat.le_refl _)) hn2
  rw [M.findV_no (by rw [M.asked_bad (by rw [← HC.out]; exact HNZ.out), ← HC.out]; exact HNZ.out), M.asked_bad (by rw [← HC.out]; exact HNZ.out), ← HC.out] at K
  have KK : Hid (Calls Try.prog 18 #[.slice a2 n2 cap2, .int .i64 0] w1 fun e w' => e = .returned (.tuple #[.int .i64 0, .int .i64 c]) ∧ Below w1.heap.size w1 w') := K
  clear K hb1
  go_wp2_with fail
  refine KK.out.mono ?_
  rintro e w2 ⟨rfl, hb3⟩
  go_wp2
  go_ret2
  exact ⟨rfl, hb2.trans (hb3.mono hb2.size)⟩

set_option maxHeartbeats 4000000 in
theorem changes_good (a a2 : Option Addr) (n n2 cap cap2 : Nat) (b m : List (Int × Int)) (w : World) (h : Rd w a n b) (h2 : Rd w a2 n2 m) (hz : M.chk b = 0) (hz2 : M.chk m = 0) :
    Calls Try.prog 44 #[.slice a n cap, .slice a2 n2 cap2] w fun e w' => ∃ B, e = .returned (.tuple #[.map (some B), .int .i64 0]) ∧ Mp w' B 100 (cfun b m 100) ∧ w.heap.size ≤ B ∧ Below w.heap.size w w' := by
  have hn : n ≤ 40 := by rw [← h.1]; exact ((M.chk_zero b).1 hz).1
  have hn2 : n2 ≤ 40 := by rw [← h2.1]; exact ((M.chk_zero m).1 hz2).1
  have HB : Aside (Rd w a n b) := h
  have HM : Aside (Rd w a2 n2 m) := h2
  have F1 : Aside (∀ W (k : Nat), Below w.heap.size w W → k < 100 → Calls Try.prog 18 #[.slice a n cap, .int .i64 (k : Int)] W fun e w' => e = .returned (.tuple #[.int .i64 (M.find k b), .int .i64 0]) ∧ Below W.heap.size W w') := fun W k hW hk => by
    have H := find_any a n cap b k W (h.below hW (Nat.le_refl _)) (by omega)
    have e := M.asked_ok hz (key := (k : Int)) (by omega) (by omega)
    rw [M.findV_ok e, e] at H
    exact H
  have F2 : Aside (∀ W (k : Nat), Below w.heap.size w W → k < 100 → Calls Try.prog 18 #[.slice a2 n2 cap2, .int .i64 (k : Int)] W fun e w' => e = .returned (.tuple #[.int .i64 (M.find k m), .int .i64 0]) ∧ Below W.heap.size W w') := fun W k hW hk => by
    have H := find_any a2 n2 cap2 m k W (h2.below hW (Nat.le_refl _)) (by omega)
    have e := M.asked_ok hz2 (key := (k : Int)) (by omega) (by omega)
    rw [M.findV_ok e, e] at H
    exact H
  have hmm := @run_makeMap Try.prog
  have HM0 : Aside (Mp (w.alloc (.map #[] 0)) w.heap.size 0 (cfun b m 0)) := by unfold Aside; rw [cfun_zero]; exact Mp.made w
  clear h h2 hz hz2
  go_enter Try.func44, Try.ntmps44
  go_wp2
  go_loopg [12] 100 (fun g i wr => ∃ (k c : Nat), k + g = 100 ∧ i = .int .i64 k ∧ c ≤ k ∧ Aside (Mp wr w.heap.size c (cfun b m k)) ∧ Below w.heap.size w wr)
  case atStart => exact ⟨0, 0, by omega, rfl, Nat.le_refl _, HM0, (Below.refl _ _).alloc (Nat.le_refl _) _⟩
  case round =>
    obtain ⟨k, c, hk, rfl, hck, HMp, hbel⟩ := hrel
    by_cases hlt : k < 100
    · have K1 := F1.out wr k hbel hlt
      obtain ⟨x, hx⟩ : ∃ x, x = M.find (k : Int) b := ⟨_, rfl⟩
      obtain ⟨y, hy⟩ : ∃ y, y = M.find (k : Int) m := ⟨_, rfl⟩
      rw [← hx] at K1
      have KK1 : Hid (Calls Try.prog 18 #[.slice a n cap, .int .i64 (k : Int)] wr fun e w' => e = .returned (.tuple #[.int .i64 x, .int .i64 0]) ∧ Below wr.heap.size wr w') := K1
      have HX : Aside (x = M.find (k : Int) b) := hx
      have HY : Aside (y = M.find (k : Int) m) := hy
      have hBlt := HMp.out.lt
      clear K1 hx hy
      have hki : (k : Int) < 100 := by omega
      go_wp2_with fail
      refine KK1.out.mono ?_
      rintro e w1 ⟨rfl, hb1⟩
      have hb2 : Below w.heap.size w w1 := hbel.trans (hb1.mono hbel.size)
      have HMp1 : Aside (Mp w1 w.heap.size c (cfun b m k)) := HMp.out.below hb1 hBlt
      have K2 := F2.out w1 k hb2 hlt
      rw [← HY.out] at K2
      have KK2 : Hid (Calls Try.prog 18 #[.slice a2 n2 cap2, .int .i64 (k : Int)] w1 fun e w' => e = .returned (.tuple #[.int .i64 y, .int .i64 0]) ∧ Below w1.heap.size w1 w') := K2
      have hBlt1 := HMp1.out.lt
      clear K2 hb1 KK1 HMp hbel
      go_wp2_with fail
      refine KK2.out.mono ?_
      rintro e w2 ⟨rfl, hb3⟩
      have hb4 : Below w.heap.size w w2 := hb2.trans (hb3.mono hb2.size)
      have HMp2 : Aside (Mp w2 w.heap.size c (cfun b m k)) := HMp1.out.below hb3 hBlt1
      clear hb3 KK2 HMp1 hb2
      by_cases hxy : x = y
      · have hb : (x != y) = false := by simp [hxy]
        have HMp3 : Aside (Mp w2 w.heap.size c (cfun b m (k + 1))) := by unfold Aside; rw [← cfun_same b m k (by rw [← HX.out, ← HY.out]; exact hxy)]; exact HMp2.out
        clear hxy
        go_wp2
        go_roundg (gk - 1)
        case measure => omega
        case rel => exact ⟨k + 1, c, by omega, by go_num, by omega, HMp3, hb4⟩
      · have hb : (x != y) = true := by simp [hxy]
        have HE : Aside (upd (cfun b m k) (k : Int) (cval ((k : Int), x, y)) = cfun b m (k + 1)) := by unfold Aside; rw [HX.out, HY.out]; exact cfun_more b m k (by rw [← HX.out, ← HY.out]; exact hxy)
        clear hxy
        go_wp2_with (at_mapUpdate; refine wp_mp_set rfl _ _ _ 65 38 rfl Try.underlying65 w.heap.size c (cfun b m k) rfl HMp2.out (by omega) (k : Int) (cval ((k : Int), x, y)) rfl rfl (by omega) (by omega) ?_)
        intro w3 hmp hgr
        have HMp3 : Aside (Mp w3 w.heap.size (c + 1) (cfun b m (k + 1))) := by unfold Aside; rw [← HE.out]; exact hmp
        have hb5 : Below w.heap.size w w3 := hb4.grown hgr hb4.size (fun k hk => by cases hk; exact Nat.le_refl _)
        clear hmp hgr
        go_wp2
        go_roundg (gk - 1)
        case measure => omega
        case rel => exact ⟨k + 1, c + 1, by omega, by go_num, by omega, HMp3, hb5⟩
    · obtain rfl : k = 100 := by omega
      have HMp3 : Aside (Mp wr w.heap.size 100 (cfun b m 100)) := HMp.out.mono hck
      go_wp2
      go_ret2
      exact ⟨w.heap.size, rfl, HMp3.out, Nat.le_refl _, hbel⟩
end Go.Proofs.Ytcgpgflnihjpiad
