/- rows.checkAsked, place, sort.Search. -/
import Derived.Test.YtcgpgflnihjpiacRef1
namespace Go.Proofs.Ytcgpgflnihjpiac
open Go.RowKit


theorem asked_bad (a : Option Addr) (n cap : Nat) (l : List (Int × Int)) (key : Int) (w : World) (h : Rd w a n l) (hm : n ≤ 9223372036854775807) (hb : M.chk l ≠ 0) :
    Calls Try.prog 39 #[.slice a n cap, .int .i64 key] w fun e w' => e = .returned (.int .i64 (M.chk l)) ∧ Below w.heap.size w w' := by
  have H := check_any a n cap l w h hm
  obtain ⟨c, hc⟩ : ∃ c, c = M.chk l := ⟨_, rfl⟩
  rw [← hc] at H hb ⊢
  clear hc h
  have hne : (c != 0) = true := by simp [hb]
  clear hb
  have HH : Hid (Calls Try.prog 36 #[.slice a n cap] w fun e w' => e = .returned (.int .i64 c) ∧ Below w.heap.size w w') := H
  clear H
  go_enter Try.func39, Try.ntmps39
  go_wp2_with (go_at_call 36; refine HH.out.mono ?_; rintro e w' ⟨rfl, hb1⟩)
  go_ret
  exact ⟨rfl, hb1⟩

theorem asked_range (a : Option Addr) (n cap : Nat) (l : List (Int × Int)) (key : Int) (w : World) (h : Rd w a n l) (hm : n ≤ 9223372036854775807) (hb : M.chk l = 0) (hk : key < 0 ∨ 99 < key) :
    Calls Try.prog 39 #[.slice a n cap, .int .i64 key] w fun e w' => e = .returned (.int .i64 3) ∧ Below w.heap.size w w' := by
  have H := check_any a n cap l w h hm
  rw [hb] at H
  clear hb h
  have HH : Hid (Calls Try.prog 36 #[.slice a n cap] w fun e w' => e = .returned (.int .i64 0) ∧ Below w.heap.size w w') := H
  clear H
  rcases hk with hk | hk
  · go_enter Try.func39, Try.ntmps39
    go_wp2_with (go_at_call 36; refine HH.out.mono ?_; rintro e w' ⟨rfl, hb1⟩)
    go_ret
    exact ⟨rfl, hb1⟩
  · have hk0 : ¬ key < 0 := by omega
    go_enter Try.func39, Try.ntmps39
    go_wp2_with (go_at_call 36; refine HH.out.mono ?_; rintro e w' ⟨rfl, hb1⟩)
    go_ret
    exact ⟨rfl, hb1⟩

theorem asked_ok (a : Option Addr) (n cap : Nat) (l : List (Int × Int)) (key : Int) (w : World) (h : Rd w a n l) (hm : n ≤ 9223372036854775807) (hb : M.chk l = 0) (hk : 0 ≤ key) (hk2 : key ≤ 99) :
    Calls Try.prog 39 #[.slice a n cap, .int .i64 key] w fun e w' => e = .returned (.int .i64 0) ∧ Below w.heap.size w w' := by
  have H := check_any a n cap l w h hm
  rw [hb] at H
  clear hb h
  have HH : Hid (Calls Try.prog 36 #[.slice a n cap] w fun e w' => e = .returned (.int .i64 0) ∧ Below w.heap.size w w') := H
  clear H
  go_enter Try.func39, Try.ntmps39
  go_wp2_with (go_at_call 36; refine HH.out.mono ?_; rintro e w' ⟨rfl, hb1⟩)
  go_ret
  exact ⟨rfl, hb1⟩

/-- The function literal: does the i-th row's key come up to the key? -/
theorem lit_any (b off n cap : Nat) (key x : Int) (p q i : Nat) (w : World) (hi : i < n)
    (hp : w.cell? ⟨p, 0, none⟩ = some (.slice (some ⟨b, off, none⟩) n cap)) (hq : w.cell? ⟨q, 0, none⟩ = some (.int .i64 key))
    (hx : w.cell? ⟨b, off + i * 2, none⟩ = some (.int .i64 x)) :
    Calls Try.prog 68 #[.int .i64 i, .pointer (some ⟨p, 0, none⟩), .pointer (some ⟨q, 0, none⟩)] w fun e w' => e = .returned (.bool (decide (key ≤ x))) ∧ ∃ m, w' = w.drewN m := by
  have hki : (i : Int) < (n : Int) := by omega
  go_enter Try.func68, Try.ntmps68
  go_wp2_with fail
  go_quiet (fail)
  go_wp2
  go_ret
  exact ⟨rfl, _, rfl⟩

set_option maxHeartbeats 1000000 in
theorem search_some (b off n cap : Nat) (l : List (Int × Int)) (key : Int) (p q : Nat) (w : World) (hn : n ≤ 40)
    (hp : w.cell? ⟨p, 0, none⟩ = some (.slice (some ⟨b, off, none⟩) n cap)) (hq : w.cell? ⟨q, 0, none⟩ = some (.int .i64 key))
    (hc : ∀ i, i < n → w.cell? ⟨b, off + i * 2, none⟩ = some (.int .i64 (l.getD i (0, 0)).1))
    (hs : ∀ i j, i ≤ j → j < n → (l.getD i (0, 0)).1 ≤ (l.getD j (0, 0)).1) :
    Calls Try.prog 67 #[.int .i64 n, .func (Fn.func 68) #[] #[.pointer (some ⟨p, 0, none⟩), .pointer (some ⟨q, 0, none⟩)]] w
      fun e w' => (∃ k : Nat, e = .returned (.int .i64 k) ∧ k ≤ n ∧ (∀ i, i < k → (l.getD i (0, 0)).1 < key) ∧ (k < n → key ≤ (l.getD k (0, 0)).1)) ∧ ∃ m, w' = w.drewN m := by
  have HC : Aside (∀ i, i < n → w.cell? ⟨b, off + i * 2, none⟩ = some (.int .i64 (l.getD i (0, 0)).1)) := hc
  have HS : Aside (∀ i j, i ≤ j → j < n → (l.getD i (0, 0)).1 ≤ (l.getD j (0, 0)).1) := hs
  have HP : Aside (w.cell? ⟨p, 0, none⟩ = some (.slice (some ⟨b, off, none⟩) n cap)) := hp
  have HQ : Aside (w.cell? ⟨q, 0, none⟩ = some (.int .i64 key)) := hq
  clear hc hs hp hq
  go_enter Try.func67, Try.ntmps67
  go_wp2
  go_loopg [5, 6] n (fun g vi vj wr => ∃ i j m : Nat, i ≤ j ∧ j ≤ n ∧ j - i ≤ g ∧ vi = .int .i64 i ∧ vj = .int .i64 j ∧ wr = w.drewN m ∧ Aside (∀ t, t < i → (l.getD t (0, 0)).1 < key) ∧ Aside (j < n → key ≤ (l.getD j (0, 0)).1))
  case atStart => exact ⟨0, n, 0, by omega, by omega, by omega, rfl, rfl, rfl, fun t h => by omega, fun h => by omega⟩
  case round =>
    obtain ⟨i, j, m, hij, hj, hg, rfl, rfl, rfl, A, A2⟩ := hrel
    by_cases hlt : i < j
    · obtain ⟨h, hh⟩ : ∃ h : Nat, h = (i + j) / 2 := ⟨_, rfl⟩
      have e1 : ((i : Int) + (j : Int)) / 2 = (h : Int) := by omega
      have h1 : i ≤ h := by omega
      have h2 : h < j := by omega
      clear hh
      have E1 : Hid (((i : Int) + (j : Int)) / 2 = (h : Int)) := e1
      clear e1
      obtain ⟨x, hx⟩ : ∃ x, x = (l.getD h (0, 0)).1 := ⟨_, rfl⟩
      have HX : Aside (x = (l.getD h (0, 0)).1) := hx
      have cx : (w.drewN m).cell? ⟨b, off + h * 2, none⟩ = some (.int .i64 x) := by rw [hx]; exact HC.out h (by omega)
      clear hx
      have cp : (w.drewN m).cell? ⟨p, 0, none⟩ = some (.slice (some ⟨b, off, none⟩) n cap) := HP.out
      have cq : (w.drewN m).cell? ⟨q, 0, none⟩ = some (.int .i64 key) := HQ.out
      have L := lit_any b off n cap key x p q h (w.drewN m) (by omega) cp cq cx
      have LH : Hid (Calls Try.prog 68 #[.int .i64 h, .pointer (some ⟨p, 0, none⟩), .pointer (some ⟨q, 0, none⟩)] (w.drewN m) fun e w' => e = .returned (.bool (decide (key ≤ x))) ∧ ∃ m', w' = (w.drewN m).drewN m') := L
      clear L cx cp cq
      by_cases hkx : key ≤ x
      · have hkd : decide (key ≤ x) = true := by simp [hkx]
        go_wp2_with fail
        rw [E1.out]
        refine LH.out.mono ?_
        rintro e w' ⟨rfl, m', rfl⟩
        go_wp2
        go_roundg (h - i)
        case measure => omega
        case rel => exact ⟨i, h, m + m', by omega, by omega, by omega, rfl, by go_num, rfl, A, fun _ => by rw [← HX.out]; exact hkx⟩
      · have hkd : decide (key ≤ x) = false := by simp [hkx]
        go_wp2_with fail
        rw [E1.out]
        refine LH.out.mono ?_
        rintro e w' ⟨rfl, m', rfl⟩
        go_wp2
        go_roundg (j - (h + 1))
        case measure => omega
        case rel => exact ⟨h + 1, j, m + m', by omega, by omega, by omega, by go_num, rfl, rfl, fun t ht => by have := HS.out t h (by omega) (by omega); have := HX.out; omega, A2⟩
    · go_wp2
      go_ret
      have : i = j := by omega
      subst this
      exact ⟨⟨i, rfl, hj, A.out, A2.out⟩, m, rfl⟩

set_option maxHeartbeats 1000000 in
theorem place_some (b off n cap : Nat) (l : List (Int × Int)) (key : Int) (w : World) (hn : n ≤ 40) (hB : b < w.heap.size)
    (hc : ∀ i, i < n → w.cell? ⟨b, off + i * 2, none⟩ = some (.int .i64 (l.getD i (0, 0)).1))
    (hs : ∀ i j, i ≤ j → j < n → (l.getD i (0, 0)).1 ≤ (l.getD j (0, 0)).1) :
    Calls Try.prog 40 #[.slice (some ⟨b, off, none⟩) n cap, .int .i64 key] w
      fun e w' => (∃ (k : Nat) (t : Bool), e = .returned (.tuple #[.int .i64 k, .bool t]) ∧ k ≤ n ∧ (∀ i, i < k → (l.getD i (0, 0)).1 < key) ∧ (k < n → key ≤ (l.getD k (0, 0)).1) ∧ (t = true ↔ k < n ∧ (l.getD k (0, 0)).1 = key)) ∧ Below w.heap.size w w' := by
  obtain ⟨W, hW⟩ : ∃ W, W = (w.alloc (.cells #[.slice (some ⟨b, off, none⟩) n cap] 32)).alloc (.cells #[.int .i64 key] 3) := ⟨_, rfl⟩
  have hbW : Below w.heap.size w W := by rw [hW]; exact ((Below.refl _ _).alloc (Nat.le_refl _) _).alloc (by simp) _
  have cW : ∀ i, i < n → W.cell? ⟨b, off + i * 2, none⟩ = some (.int .i64 (l.getD i (0, 0)).1) := fun i hi => (hbW.cell (p := ⟨b, off + i * 2, none⟩) hB).trans (hc i hi)
  have cp : W.cell? ⟨w.heap.size, 0, none⟩ = some (.slice (some ⟨b, off, none⟩) n cap) := by rw [hW]; simp [go_sem]
  have cq : W.cell? ⟨w.heap.size + 1, 0, none⟩ = some (.int .i64 key) := by rw [hW]; simp [go_sem]
  have S := search_some b off n cap l key w.heap.size (w.heap.size + 1) W hn cp cq cW hs
  have SH : Hid (Calls Try.prog 67 #[.int .i64 n, .func (Fn.func 68) #[] #[.pointer (some ⟨w.heap.size, 0, none⟩), .pointer (some ⟨w.heap.size + 1, 0, none⟩)]] W
      fun e w' => (∃ k : Nat, e = .returned (.int .i64 k) ∧ k ≤ n ∧ (∀ i, i < k → (l.getD i (0, 0)).1 < key) ∧ (k < n → key ≤ (l.getD k (0, 0)).1)) ∧ ∃ m, w' = W.drewN m) := S
  have HW : Hid (W = (w.alloc (.cells #[.slice (some ⟨b, off, none⟩) n cap] 32)).alloc (.cells #[.int .i64 key] 3)) := hW
  have CW : Hid (∀ i, i < n → W.cell? ⟨b, off + i * 2, none⟩ = some (.int .i64 (l.getD i (0, 0)).1)) := cW
  clear S hW hc hs cW
  go_enter Try.func40, Try.ntmps40
  go_wp2_with fail
  rw [← HW.out]
  refine SH.out.mono ?_
  rintro e w' ⟨⟨k, rfl, hk, h1, h2⟩, m, rfl⟩
  have H12 : Hid ((∀ i, i < k → (l.getD i (0, 0)).1 < key) ∧ (k < n → key ≤ (l.getD k (0, 0)).1)) := ⟨h1, h2⟩
  clear h1 h2
  have hbm := below_drewN hbW m
  by_cases hkn : k < n
  · obtain ⟨x, hx⟩ : ∃ x, x = (l.getD k (0, 0)).1 := ⟨_, rfl⟩
    have cx : W.cell? ⟨b, off + k * 2, none⟩ = some (.int .i64 x) := by rw [hx]; exact CW.out k hkn
    have HX : Hid (x = (l.getD k (0, 0)).1) := hx
    clear hx
    have hki : (k : Int) < (n : Int) := by omega
    go_wp2_with fail
    go_quiet (fail)
    go_wp2
    go_ret2
    exact ⟨⟨k, (x == key), rfl, hk, H12.out.1, H12.out.2, by rw [← HX.out]; simp [hkn]⟩, below_drewN hbm _⟩
  · have hd : decide (k < n) = false := by simp; omega
    go_wp2_with fail
    go_quiet (fail)
    go_wp2
    go_ret2
    exact ⟨⟨k, false, rfl, hk, H12.out.1, H12.out.2, by simp; omega⟩, below_drewN hbm _⟩

theorem search_none (f : Value) (w : World) :
    Calls Try.prog 67 #[.int .i64 0, f] w fun e w' => e = .returned (.int .i64 0) ∧ w' = w := by
  go_enter Try.func67, Try.ntmps67
  go_wp2
  refine wp_loop_rounds 1 ?_
  rw [rounds_succ]
  go_wp2
  go_ret
  exact ⟨rfl, rfl⟩

theorem place_none (a : Option Addr) (cap : Nat) (key : Int) (w : World) :
    Calls Try.prog 40 #[.slice a 0 cap, .int .i64 key] w fun e w' => e = .returned (.tuple #[.int .i64 0, .bool false]) ∧ Below w.heap.size w w' := by
  go_enter Try.func40, Try.ntmps40
  go_wp2_with fail
  refine (search_none _ _).mono ?_
  rintro e w' ⟨rfl, rfl⟩
  go_wp2_with fail
  go_quiet (fail)
  go_wp2
  go_ret2
  exact ⟨rfl, below_drewN (((Below.refl _ _).alloc (Nat.le_refl _) _).alloc (by simp) _) _⟩

theorem place_any (a : Option Addr) (n cap : Nat) (l : List (Int × Int)) (key : Int) (w : World) (h : Rd w a n l) (h0 : M.chk l = 0) :
    Calls Try.prog 40 #[.slice a n cap, .int .i64 key] w
      fun e w' => ∃ (k : Nat) (t : Bool), e = .returned (.tuple #[.int .i64 k, .bool t]) ∧ M.At l key k t ∧ Below w.heap.size w w' := by
  have hz := (M.chk_zero l).1 h0
  rcases h.cases with ⟨rfl, rfl⟩ | ⟨b, off, rfl, hn, hl, hB, hc⟩
  · refine (place_none a cap key w).mono ?_
    rintro e w' ⟨rfl, hb⟩
    exact ⟨0, false, rfl, ⟨by simp, fun i hi => by omega, fun h => by simp at h, by simp⟩, hb⟩
  · refine (place_some b off n cap l key w (by rw [← hl]; exact hz.1) hB (fun i hi => (hc i hi).1) (fun i j hij hj => hz.2.mono i j hij (by omega))).mono ?_
    rintro e w' ⟨⟨k, t, rfl, h1, h2, h3, h4⟩, hb⟩
    exact ⟨k, t, rfl, ⟨by omega, h2, fun h => h3 (by omega), by rw [hl]; exact h4⟩, hb⟩

theorem asked_any (a : Option Addr) (n cap : Nat) (l : List (Int × Int)) (key : Int) (w : World) (h : Rd w a n l) (hm : n ≤ 9223372036854775807) :
    Calls Try.prog 39 #[.slice a n cap, .int .i64 key] w fun e w' => e = .returned (.int .i64 (M.asked l key)) ∧ Below w.heap.size w w' := by
  by_cases hb : M.chk l = 0
  · by_cases hk : key < 0 ∨ 99 < key
    · rw [M.asked_range hb hk]; exact asked_range a n cap l key w h hm hb hk
    · rw [M.asked_ok hb (by omega) (by omega)]; exact asked_ok a n cap l key w h hm hb (by omega) (by omega)
  · rw [M.asked_bad hb]; exact asked_bad a n cap l key w h hm hb

end Go.Proofs.Ytcgpgflnihjpiac
