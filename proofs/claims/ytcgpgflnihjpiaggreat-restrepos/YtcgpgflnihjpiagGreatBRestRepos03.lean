/- Place. -/
import Derived.Test.YtcgpgflnihjpiagGreatBRestRepos02
import Derived.Lib.AppendZeros
import Derived.Test.YtcgpgflnihjpiagGreatBRestRepos01
import Derived.Laws.Tables
import Derived.Laws.CopyOwn
import Derived.Maps.OwnOps
import Derived.Maps.OwnSet
import Derived.Lib.SlKeysI
namespace Go.Proofs.YtcgpgflnihjpiagGreat
open Go.RowKit
theorem asked_bad (a : Option Addr) (n cap : Nat) (l : List (Int × Int)) (key : Int) (w : World) (h : Rd w a n l) (hm : n ≤ 9223372036854775807) (hb : M.chk l ≠ 0) :
    Calls Tryz.prog 151 #[.slice a n cap, .int .i64 key] w fun e w' => e = .returned (.int .i64 (M.chk l)) ∧ Below w.heap.size w w' := by
  have H := check_any a n cap l w h hm
  obtain ⟨c, hc⟩ : ∃ c, c = M.chk l := ⟨_, rfl⟩
  rw [← hc] at H hb ⊢
  clear hc h
  have hne : (c != 0) = true := by simp [hb]
  clear hb
  have HH : Hid (Calls Tryz.prog 47 #[.slice a n cap] w fun e w' => e = .returned (.int .i64 c) ∧ Below w.heap.size w w') := H
  clear H
  go_enter Tryz.func151, Tryz.ntmps151
  go_wp2_with (go_at_call 47; refine HH.out.mono ?_; rintro e w' ⟨rfl, hb1⟩)
  go_ret
  exact ⟨rfl, hb1⟩
theorem asked_range (a : Option Addr) (n cap : Nat) (l : List (Int × Int)) (key : Int) (w : World) (h : Rd w a n l) (hm : n ≤ 9223372036854775807) (hb : M.chk l = 0) (hk : key < 0 ∨ 99 < key) :
    Calls Tryz.prog 151 #[.slice a n cap, .int .i64 key] w fun e w' => e = .returned (.int .i64 3) ∧ Below w.heap.size w w' := by
  have H := check_any a n cap l w h hm
  rw [hb] at H
  clear hb h
  have HH : Hid (Calls Tryz.prog 47 #[.slice a n cap] w fun e w' => e = .returned (.int .i64 0) ∧ Below w.heap.size w w') := H
  clear H
  rcases hk with hk | hk
  · go_enter Tryz.func151, Tryz.ntmps151
    go_wp2_with (go_at_call 47; refine HH.out.mono ?_; rintro e w' ⟨rfl, hb1⟩)
    go_ret
    exact ⟨rfl, hb1⟩
  · have hk0 : ¬ key < 0 := by omega
    go_enter Tryz.func151, Tryz.ntmps151
    go_wp2_with (go_at_call 47; refine HH.out.mono ?_; rintro e w' ⟨rfl, hb1⟩)
    go_ret
    exact ⟨rfl, hb1⟩
theorem asked_ok (a : Option Addr) (n cap : Nat) (l : List (Int × Int)) (key : Int) (w : World) (h : Rd w a n l) (hm : n ≤ 9223372036854775807) (hb : M.chk l = 0) (hk : 0 ≤ key) (hk2 : key ≤ 99) :
    Calls Tryz.prog 151 #[.slice a n cap, .int .i64 key] w fun e w' => e = .returned (.int .i64 0) ∧ Below w.heap.size w w' := by
  have H := check_any a n cap l w h hm
  rw [hb] at H
  clear hb h
  have HH : Hid (Calls Tryz.prog 47 #[.slice a n cap] w fun e w' => e = .returned (.int .i64 0) ∧ Below w.heap.size w w') := H
  clear H
  go_enter Tryz.func151, Tryz.ntmps151
  go_wp2_with (go_at_call 47; refine HH.out.mono ?_; rintro e w' ⟨rfl, hb1⟩)
  go_ret
  exact ⟨rfl, hb1⟩
theorem lit_any (b off n cap : Nat) (key x : Int) (p q i : Nat) (w : World) (hi : i < n)
    (hp : w.cell? ⟨p, 0, none⟩ = some (.slice (some ⟨b, off, none⟩) n cap)) (hq : w.cell? ⟨q, 0, none⟩ = some (.int .i64 key))
    (hx : w.cell? ⟨b, off + i * 2, none⟩ = some (.int .i64 x)) :
    Calls Tryz.prog 164 #[.int .i64 i, .pointer (some ⟨p, 0, none⟩), .pointer (some ⟨q, 0, none⟩)] w fun e w' => e = .returned (.bool (decide (key ≤ x))) ∧ ∃ m, w' = w.drewN m := by
  have hki : (i : Int) < (n : Int) := by omega
  go_enter Tryz.func164, Tryz.ntmps164
  go_wp2_with fail
  go_quiet (fail)
  go_wp2
  go_ret
  exact ⟨rfl, _, rfl⟩
set_option maxHeartbeats 1000000 in
theorem search_some (b off n cap : Nat) (l : List (Int × Int)) (key : Int) (p q : Nat) (w : World) (hn : n ≤ 40)
    (hp : w.cell? ⟨p, 0, none⟩ = some (.slice (some ⟨b, off, none⟩) n cap)) (hq : w.cell? ⟨q, 0, none⟩ = some (.int .i64 key))
    (hc : ∀ i, i < n → w.cell? ⟨b, off + i * 2, none⟩ = some (.int .i64 (l.getD i (0, 0)).1))
    (hs : ∀ i j, i ≤ j → j < n → (l.getD i (0, 0)).1 ≤ (l.getD j (0, 0)).1) :
    Calls Tryz.prog 163 #[.int .i64 n, .func (Fn.func 164) #[] #[.pointer (some ⟨p, 0, none⟩), .pointer (some ⟨q, 0, none⟩)]] w
      fun e w' => (∃ k : Nat, e = .returned (.int .i64 k) ∧ k ≤ n ∧ (∀ i, i < k → (l.getD i (0, 0)).1 < key) ∧ (k < n → key ≤ (l.getD k (0, 0)).1)) ∧ ∃ m, w' = w.drewN m := by
  have HC : Aside (∀ i, i < n → w.cell? ⟨b, off + i * 2, none⟩ = some (.int .i64 (l.getD i (0, 0)).1)) := hc
  have HS : Aside (∀ i j, i ≤ j → j < n → (l.getD i (0, 0)).1 ≤ (l.getD j (0, 0)).1) := hs
  have HP : Aside (w.cell? ⟨p, 0, none⟩ = some (.slice (some ⟨b, off, none⟩) n cap)) := hp
  have HQ : Aside (w.cell? ⟨q, 0, none⟩ = some (.int .i64 key)) := hq
  clear hc hs hp hq
  go_enter Tryz.func163, Tryz.ntmps163
  go_wp2
  go_loopg [5, 6] n (fun g vi vj wr => ∃ i j m : Nat, i ≤ j ∧ j ≤ n ∧ j - i ≤ g ∧ vi = .int .i64 i ∧ vj = .int .i64 j ∧ wr = w.drewN m ∧ Aside (∀ t, t < i → (l.getD t (0, 0)).1 < key) ∧ Aside (j < n → key ≤ (l.getD j (0, 0)).1))
  case atStart => exact ⟨0, n, 0, by omega, by omega, by omega, rfl, rfl, rfl, fun t h => by omega, fun h => by omega⟩
  case round =>
    obtain ⟨i, j, m, hij, hj, hg, rfl, rfl, rfl, A, A2⟩ := hrel
    by_cases hlt : i < j
    · obtain ⟨h, hh⟩ : ∃ h : Nat, h = (i + j) / 2 := ⟨_, rfl⟩
      have e1 : ((i : Int) + (j : Int)) / 2 = (h : Int) := by omega
      have h1 : i ≤ h := by omega
      have h2 : h < j := by omega
      clear hh
      have E1 : Hid (((i : Int) + (j : Int)) / 2 = (h : Int)) := e1
      clear e1
      obtain ⟨x, hx⟩ : ∃ x, x = (l.getD h (0, 0)).1 := ⟨_, rfl⟩
      have HX : Aside (x = (l.getD h (0, 0)).1) := hx
      have cx : (w.drewN m).cell? ⟨b, off + h * 2, none⟩ = some (.int .i64 x) := by rw [hx]; exact HC.out h (by omega)
      clear hx
      have cp : (w.drewN m).cell? ⟨p, 0, none⟩ = some (.slice (some ⟨b, off, none⟩) n cap) := HP.out
      have cq : (w.drewN m).cell? ⟨q, 0, none⟩ = some (.int .i64 key) := HQ.out
      have L := lit_any b off n cap key x p q h (w.drewN m) (by omega) cp cq cx
      have LH : Hid (Calls Tryz.prog 164 #[.int .i64 h, .pointer (some ⟨p, 0, none⟩), .pointer (some ⟨q, 0, none⟩)] (w.drewN m) fun e w' => e = .returned (.bool (decide (key ≤ x))) ∧ ∃ m', w' = (w.drewN m).drewN m') := L
      clear L cx cp cq
      by_cases hkx : key ≤ x
      · have hkd : decide (key ≤ x) = true := by simp [hkx]
        go_wp2_with fail
        rw [E1.out]
        refine LH.out.mono ?_
        rintro e w' ⟨rfl, m', rfl⟩
        go_wp2
        go_roundg (h - i)
        case measure => omega
        case rel => exact ⟨i, h, m + m', by omega, by omega, by omega, rfl, by go_num, rfl, A, fun _ => by rw [← HX.out]; exact hkx⟩
      · have hkd : decide (key ≤ x) = false := by simp [hkx]
        go_wp2_with fail
        rw [E1.out]
        refine LH.out.mono ?_
        rintro e w' ⟨rfl, m', rfl⟩
        go_wp2
        go_roundg (j - (h + 1))
        case measure => omega
        case rel => exact ⟨h + 1, j, m + m', by omega, by omega, by omega, by go_num, rfl, rfl, fun t ht => by have := HS.out t h (by omega) (by omega); have := HX.out; omega, A2⟩
    · go_wp2
      go_ret
      have : i = j := by omega
      subst this
      exact ⟨⟨i, rfl, hj, A.out, A2.out⟩, m, rfl⟩
set_option maxHeartbeats 1000000 in
theorem place_some (b off n cap : Nat) (l : List (Int × Int)) (key : Int) (w : World) (hn : n ≤ 40) (hB : b < w.heap.size)
    (hc : ∀ i, i < n → w.cell? ⟨b, off + i * 2, none⟩ = some (.int .i64 (l.getD i (0, 0)).1))
    (hs : ∀ i j, i ≤ j → j < n → (l.getD i (0, 0)).1 ≤ (l.getD j (0, 0)).1) :
    Calls Tryz.prog 152 #[.slice (some ⟨b, off, none⟩) n cap, .int .i64 key] w
      fun e w' => (∃ (k : Nat) (t : Bool), e = .returned (.tuple #[.int .i64 k, .bool t]) ∧ k ≤ n ∧ (∀ i, i < k → (l.getD i (0, 0)).1 < key) ∧ (k < n → key ≤ (l.getD k (0, 0)).1) ∧ (t = true ↔ k < n ∧ (l.getD k (0, 0)).1 = key)) ∧ Below w.heap.size w w' := by
  obtain ⟨W, hW⟩ : ∃ W, W = (w.alloc (.cells #[.slice (some ⟨b, off, none⟩) n cap] 47)).alloc (.cells #[.int .i64 key] 3) := ⟨_, rfl⟩
  have hbW : Below w.heap.size w W := by rw [hW]; exact ((Below.refl _ _).alloc (Nat.le_refl _) _).alloc (by simp) _
  have cW : ∀ i, i < n → W.cell? ⟨b, off + i * 2, none⟩ = some (.int .i64 (l.getD i (0, 0)).1) := fun i hi => (hbW.cell (p := ⟨b, off + i * 2, none⟩) hB).trans (hc i hi)
  have cp : W.cell? ⟨w.heap.size, 0, none⟩ = some (.slice (some ⟨b, off, none⟩) n cap) := by rw [hW]; simp [go_sem]
  have cq : W.cell? ⟨w.heap.size + 1, 0, none⟩ = some (.int .i64 key) := by rw [hW]; simp [go_sem]
  have S := search_some b off n cap l key w.heap.size (w.heap.size + 1) W hn cp cq cW hs
  have SH : Hid (Calls Tryz.prog 163 #[.int .i64 n, .func (Fn.func 164) #[] #[.pointer (some ⟨w.heap.size, 0, none⟩), .pointer (some ⟨w.heap.size + 1, 0, none⟩)]] W
      fun e w' => (∃ k : Nat, e = .returned (.int .i64 k) ∧ k ≤ n ∧ (∀ i, i < k → (l.getD i (0, 0)).1 < key) ∧ (k < n → key ≤ (l.getD k (0, 0)).1)) ∧ ∃ m, w' = W.drewN m) := S
  have HW : Hid (W = (w.alloc (.cells #[.slice (some ⟨b, off, none⟩) n cap] 47)).alloc (.cells #[.int .i64 key] 3)) := hW
  have CW : Hid (∀ i, i < n → W.cell? ⟨b, off + i * 2, none⟩ = some (.int .i64 (l.getD i (0, 0)).1)) := cW
  clear S hW hc hs cW
  go_enter Tryz.func152, Tryz.ntmps152
  go_wp2_with fail
  rw [← HW.out]
  refine SH.out.mono ?_
  rintro e w' ⟨⟨k, rfl, hk, h1, h2⟩, m, rfl⟩
  have H12 : Hid ((∀ i, i < k → (l.getD i (0, 0)).1 < key) ∧ (k < n → key ≤ (l.getD k (0, 0)).1)) := ⟨h1, h2⟩
  clear h1 h2
  have hbm := below_drewN hbW m
  by_cases hkn : k < n
  · obtain ⟨x, hx⟩ : ∃ x, x = (l.getD k (0, 0)).1 := ⟨_, rfl⟩
    have cx : W.cell? ⟨b, off + k * 2, none⟩ = some (.int .i64 x) := by rw [hx]; exact CW.out k hkn
    have HX : Hid (x = (l.getD k (0, 0)).1) := hx
    clear hx
    have hki : (k : Int) < (n : Int) := by omega
    go_wp2_with fail
    go_quiet (fail)
    go_wp2
    go_ret2
    exact ⟨⟨k, (x == key), rfl, hk, H12.out.1, H12.out.2, by rw [← HX.out]; simp [hkn]⟩, below_drewN hbm _⟩
  · have hd : decide (k < n) = false := by simp; omega
    go_wp2_with fail
    go_quiet (fail)
    go_wp2
    go_ret2
    exact ⟨⟨k, false, rfl, hk, H12.out.1, H12.out.2, by simp; omega⟩, below_drewN hbm _⟩
theorem search_none (f : Value) (w : World) :
    Calls Tryz.prog 163 #[.int .i64 0, f] w fun e w' => e = .returned (.int .i64 0) ∧ w' = w := by
  go_enter Tryz.func163, Tryz.ntmps163
  go_wp2
  refine wp_loop_rounds 1 ?_
  rw [rounds_succ]
  go_wp2
  go_ret
  exact ⟨rfl, rfl⟩
theorem place_none (a : Option Addr) (cap : Nat) (key : Int) (w : World) :
    Calls Tryz.prog 152 #[.slice a 0 cap, .int .i64 key] w fun e w' => e = .returned (.tuple #[.int .i64 0, .bool false]) ∧ Below w.heap.size w w' := by
  go_enter Tryz.func152, Tryz.ntmps152
  go_wp2_with fail
  refine (search_none _ _).mono ?_
  rintro e w' ⟨rfl, rfl⟩
  go_wp2_with fail
  go_quiet (fail)
  go_wp2
  go_ret2
  exact ⟨rfl, below_drewN (((Below.refl _ _).alloc (Nat.le_refl _) _).alloc (by simp) _) _⟩
theorem place_any (a : Option Addr) (n cap : Nat) (l : List (Int × Int)) (key : Int) (w : World) (h : Rd w a n l) (h0 : M.chk l = 0) :
    Calls Tryz.prog 152 #[.slice a n cap, .int .i64 key] w
      fun e w' => ∃ (k : Nat) (t : Bool), e = .returned (.tuple #[.int .i64 k, .bool t]) ∧ M.At l key k t ∧ Below w.heap.size w w' := by
  have hz := (M.chk_zero l).1 h0
  rcases h.cases with ⟨rfl, rfl⟩ | ⟨b, off, rfl, hn, hl, hB, hc⟩
  · refine (place_none a cap key w).mono ?_
    rintro e w' ⟨rfl, hb⟩
    exact ⟨0, false, rfl, ⟨by simp, fun i hi => by omega, fun h => by simp at h, by simp⟩, hb⟩
  · refine (place_some b off n cap l key w (by rw [← hl]; exact hz.1) hB (fun i hi => (hc i hi).1) (fun i j hij hj => hz.2.mono i j hij (by omega))).mono ?_
    rintro e w' ⟨⟨k, t, rfl, h1, h2, h3, h4⟩, hb⟩
    exact ⟨k, t, rfl, ⟨by omega, h2, fun h => h3 (by omega), by rw [hl]; exact h4⟩, hb⟩
theorem asked_any (a : Option Addr) (n cap : Nat) (l : List (Int × Int)) (key : Int) (w : World) (h : Rd w a n l) (hm : n ≤ 9223372036854775807) :
    Calls Tryz.prog 151 #[.slice a n cap, .int .i64 key] w fun e w' => e = .returned (.int .i64 (M.asked l key)) ∧ Below w.heap.size w w' := by
  by_cases hb : M.chk l = 0
  · by_cases hk : key < 0 ∨ 99 < key
    · rw [M.asked_range hb hk]; exact asked_range a n cap l key w h hm hb hk
    · rw [M.asked_ok hb (by omega) (by omega)]; exact asked_ok a n cap l key w h hm hb (by omega) (by omega)
  · rw [M.asked_bad hb]; exact asked_bad a n cap l key w h hm hb
set_option maxHeartbeats 1000000 in
theorem grow_some (n : Nat) (w : World) (h0 : 0 < n) (hn : n ≤ 1000000) :
    Calls Tryz.prog 165 #[.slice none 0 0, .int .i64 n] w fun e w' => ∃ v, e = .returned v ∧ Own w' w.heap.size v [] ∧ Below w.heap.size w w' := by
  obtain ⟨i0, hi, hz0, hz1, hz2⟩ := info_parts infoRow
  have hrz := fun ty => Lib.run_append_nil_zeros (P := Tryz.prog) w 47 3 ty 56 i0 _ .i64 .i64 Tryz.underlying47 Tryz.underlying3 hi hz0 n h0 (by omega) (by omega) (by rw [hz2]; omega)
  have hGn : n ≤ grownCap w n 0 56 := grownCap_ge w _ _ _
  obtain ⟨G, hG⟩ : ∃ G, G = grownCap w n 0 56 := ⟨_, rfl⟩
  have hG63 : G ≤ maxLen := by rw [hG]; exact grownCap_le_maxLen w n 0 56 (by unfold maxLen; omega)
  rw [← hG] at hrz hGn
  obtain ⟨C, hC⟩ : ∃ C, C = Builtin.zeroCells (Value.agg #[.int .i64 0, .int .i64 0]).cells n ++ Builtin.zeroCells (Value.agg #[.int .i64 0, .int .i64 0]).cells (G - n) := ⟨_, rfl⟩
  rw [← hC] at hrz
  have hCs : C.size = G * 2 := by rw [hC]; simp [Builtin.zeroCells, Value.cells]; omega
  have hown := World.ownsRow_made (base := w.heap.size) (e := 56) (size := 2) w.drew C G (Nat.le_refl _) hG63 hCs
  unfold maxLen at hG63
  have HO : Hid ((w.drew.alloc (.cells C 56)).ownsRow w.heap.size 56 2 (.slice (some ⟨w.heap.size, 0, none⟩) 0 G) 0 []) := hown
  have HR : Hid (∀ ty, (Builtin.append_ #[47, 3] ty #[.slice none 0 0, .int .i64 n]).run Tryz.prog w = .ok (.slice (some ⟨w.heap.size, 0, none⟩) n G) (w.drew.alloc (.cells C 56))) := hrz
  clear hC hG hrz hCs hown hi hz0 hz1 hz2
  go_enter Tryz.func165, Tryz.ntmps165
  go_wp2_with (at_builtin; refine Lib.wpList_append_run _ rfl _ _ _ _ rfl _ _ rfl rfl _ _ (HR.out _) ?_)
  go_ret
  exact ⟨_, rfl, HO.out, (Below.refl _ _).drew.alloc (Nat.le_refl _) _⟩
theorem grow_none (w : World) :
    Calls Tryz.prog 165 #[.slice none 0 0, .int .i64 0] w fun e w' => ∃ v, e = .returned v ∧ Own w' w.heap.size v [] ∧ Below w.heap.size w w' := by
  go_enter Tryz.func165, Tryz.ntmps165
  go_wp2
  go_ret
  exact ⟨_, rfl, World.ownsRow_nil _ _ _ _, Below.refl _ _⟩
theorem grow_any (n : Nat) (w : World) (hn : n ≤ 1000000) :
    Calls Tryz.prog 165 #[.slice none 0 0, .int .i64 n] w fun e w' => ∃ v, e = .returned v ∧ Own w' w.heap.size v [] ∧ Below w.heap.size w w' := by
  by_cases h : n = 0
  · subst h; exact grow_none w
  · exact grow_some n w (by omega) hn
def Rds (w : World) (b off k : Nat) (A : Nat → Option Addr) (C : Nat → Nat) (LL : List (List (Int × Int))) : Prop :=
  LL.length = k ∧ b < w.heap.size ∧ ∀ i, i < k → w.cell? ⟨b, off + i, none⟩ = some (.slice (A i) (LL.getD i []).length (C i)) ∧ Rd w (A i) (LL.getD i []).length (LL.getD i []) ∧ (A i = none → (LL.getD i []).length = 0 ∧ C i = 0)
theorem Rds.below {w w' : World} {b off k : Nat} {A : Nat → Option Addr} {C : Nat → Nat} {LL : List (List (Int × Int))} (h : Rds w b off k A C LL) {B : Nat} (hb : Below B w w') (hB : w.heap.size ≤ B) : Rds w' b off k A C LL := by
  obtain ⟨h1, h2, h3⟩ := h
  refine ⟨h1, Nat.lt_of_lt_of_le h2 hb.size, fun i hi => ⟨?_, (h3 i hi).2.1.below hb hB, (h3 i hi).2.2⟩⟩
  rw [hb.cell (p := ⟨b, off + i, none⟩) (by show b < B; omega)]
  exact (h3 i hi).1
set_option maxHeartbeats 2000000 in
theorem concat_any (b off k cap : Nat) (A : Nat → Option Addr) (C : Nat → Nat) (LL : List (List (Int × Int))) (w : World) (hk : k ≤ 1000) (hR : Rds w b off k A C LL) (hbig : LL.flatten.length ≤ 1000000) :
    Calls Tryz.prog 153 #[.slice (some ⟨b, off, none⟩) k cap] w fun e w' => ∃ v, e = .returned v ∧ Own w' w.heap.size v LL.flatten ∧ Below w.heap.size w w' := by
  have HR : Aside (Rds w b off k A C LL) := hR
  clear hR
  have HBig : Aside (LL.flatten.length ≤ 1000000) := hbig
  clear hbig
  go_enter Tryz.func153, Tryz.ntmps153
  go_wp2
  go_loopg [3, 11] k (fun g s i wr => ∃ j q : Nat, j + g = k ∧ i = .int .i64 j ∧ s = .int .i64 q ∧ w = wr ∧ Aside (q = (LL.take j).flatten.length))
  case atStart => exact ⟨0, 0, by omega, rfl, rfl, rfl, rfl⟩
  case round =>
    obtain ⟨j, q, hj, rfl, rfl, rfl, HQ⟩ := hrel
    by_cases hlt : j < k
    · have c := (HR.out.2.2 j hlt).1
      obtain ⟨m, hm⟩ : ∃ m, m = (LL.getD j []).length := ⟨_, rfl⟩
      rw [← hm] at c
      have e1 : q + m = (LL.take (j + 1)).flatten.length := by rw [flat_take LL j (by rw [HR.out.1]; exact hlt), List.length_append, HQ.out, hm]
      have e2 : q + m ≤ 1000000 := by rw [e1]; exact Nat.le_trans (flat_le LL (j + 1)) HBig.out
      have E1 : Aside (q + m = (LL.take (j + 1)).flatten.length) := e1
      clear e1 hm
      go_wp2
      go_roundg (gk - 1)
      case measure => omega
      case rel => exact ⟨j + 1, q + m, by omega, by go_num, by go_num, rfl, E1⟩
    · obtain rfl : j = k := by omega
      have e2 : q ≤ 1000000 := by rw [HQ.out]; exact Nat.le_trans (flat_le LL j) HBig.out
      go_wp2_with fail
      refine (grow_any q _ e2).mono ?_
      rintro e w1 ⟨v, rfl, hown, hb1⟩
      have HO : Aside (Own w1 w.heap.size v []) := hown
      clear hown
      go_wp2_with fail
      go_loopg [6, 27] j (fun g s i ws => ∃ t : Nat, t + g = j ∧ i = .int .i64 t ∧ Aside (Own ws w.heap.size s (LL.take t).flatten) ∧ Below w.heap.size w ws)
      case atStart => exact ⟨0, by omega, rfl, HO, hb1⟩
      case round =>
        obtain ⟨t, ht, rfl, HT, hb2⟩ := hrel
        by_cases hlt2 : t < j
        · have R2 := HR.out.below hb2 (Nat.le_refl _)
          obtain ⟨c, r2, hnil⟩ := R2.2.2 t hlt2
          obtain ⟨l2, hl2⟩ : ∃ l2, l2 = LL.getD t [] := ⟨_, rfl⟩
          rw [← hl2] at c r2 hnil
          obtain ⟨m, hm⟩ : ∃ m, m = l2.length := ⟨_, rfl⟩
          rw [← hm] at c r2 hnil
          have e1 : (LL.take (t + 1)).flatten = (LL.take t).flatten ++ l2 := by rw [flat_take LL t (by rw [HR.out.1]; exact hlt2), hl2]
          have e3 : (LL.take t).flatten.length + m ≤ 1000000 := by
            have h3 := flat_le LL (t + 1)
            rw [e1, List.length_append, ← hm] at h3
            exact Nat.le_trans h3 HBig.out
          have E1 : Aside ((LL.take (t + 1)).flatten = (LL.take t).flatten ++ l2) := e1
          have E3 : Aside ((LL.take t).flatten.length + m ≤ 1000000) := e3
          have HR2 : Aside (Rd wr (A t) m l2) := r2
          have HN : Aside (A t = none → m = 0 ∧ C t = 0) := hnil
          clear e1 e3 hm hl2 R2 r2 hnil
          go_wp2_with (at_builtin; refine append_rd rfl _ _ rfl w.heap.size _ (LL.take t).flatten rfl HT.out (A t) m (C t) l2 rfl HR2.out HN.out E3.out hb2.size ?_)
          intro v' w' ho' hb3
          have HO' : Aside (Own w' w.heap.size v' ((LL.take t).flatten ++ l2)) := ho'
          have hb4 := hb2.trans hb3
          clear ho' hb3
          go_wp2
          go_roundg (gk - 1)
          case measure => omega
          case rel => exact ⟨t + 1, by omega, by go_num, by unfold Aside; rw [E1.out]; exact HO'.out, hb4⟩
        · obtain rfl : t = j := by omega
          have e1 : (LL.take t).flatten = LL.flatten := by rw [List.take_of_length_le (by rw [HR.out.1]; omega)]
          have E1 : Aside ((LL.take t).flatten = LL.flatten) := e1
          clear e1
          go_wp2
          go_ret
          exact ⟨_, rfl, by have h5 := HT.out; rw [E1.out] at h5; exact h5, hb2⟩
end Go.Proofs.YtcgpgflnihjpiagGreat

/- Put0. -/
namespace Go.Proofs.YtcgpgflnihjpiagGreat.M
def own (key val : Int) : List (Int × Int) := if val = -1 then [] else [(key, val)]
def lows (key : Int) (l : List (Int × Int)) : List (Int × Int) := l.filter fun r => decide (r.1 < key)
def highs (key : Int) (l : List (Int × Int)) : List (Int × Int) := l.filter fun r => decide (key < r.1)
def put (key val : Int) (l : List (Int × Int)) : List (Int × Int) := lows key l ++ own key val ++ highs key l
theorem mem_take {l : List (Int × Int)} {k : Nat} {r : Int × Int} (h : r ∈ l.take k) : ∃ i, i < k ∧ i < l.length ∧ l.getD i (0, 0) = r := by
  obtain ⟨i, hi, e⟩ := List.mem_iff_getElem.1 h
  rw [List.length_take] at hi
  refine ⟨i, by omega, by omega, ?_⟩
  rw [← e, List.getElem_take]
  simp [List.getD, show i < l.length by omega]
theorem mem_drop {l : List (Int × Int)} {k : Nat} {r : Int × Int} (h : r ∈ l.drop k) : ∃ i, k ≤ i ∧ i < l.length ∧ l.getD i (0, 0) = r := by
  obtain ⟨i, hi, e⟩ := List.mem_iff_getElem.1 h
  rw [List.length_drop] at hi
  refine ⟨k + i, by omega, by omega, ?_⟩
  rw [← e, List.getElem_drop]
  simp [List.getD, show k + i < l.length by omega]
theorem filter_all {p : Int × Int → Bool} (l : List (Int × Int)) (h : ∀ r ∈ l, p r = true) : l.filter p = l := List.filter_eq_self.2 h
theorem filter_no {p : Int × Int → Bool} (l : List (Int × Int)) (h : ∀ r ∈ l, p r = false) : l.filter p = [] := List.filter_eq_nil_iff.2 fun r hr => by rw [h r hr]; decide
theorem At.lows {l : List (Int × Int)} {key : Int} {k : Nat} {t : Bool} (h : At l key k t) (ok : Ok l) : lows key l = l.take k := by
  unfold M.lows
  rw [← List.take_append_drop k l, List.filter_append, filter_all (l.take k), filter_no (l.drop k)]
  · simp [List.take_append_drop]
  · intro r hr
    obtain ⟨i, h1, h2, rfl⟩ := mem_drop hr
    have := h.2.2.1 (by omega)
    have := ok.mono k i h1 h2
    exact decide_eq_false (by omega)
  · intro r hr
    obtain ⟨i, h1, h2, rfl⟩ := mem_take hr
    simpa using h.2.1 i h1
theorem At.highs_no {l : List (Int × Int)} {key : Int} {k : Nat} (h : At l key k false) (ok : Ok l) : highs key l = l.drop k := by
  unfold M.highs
  rw [← List.take_append_drop k l, List.filter_append, filter_no (l.take k), filter_all (l.drop k)]
  · simp [List.take_append_drop]
  · intro r hr
    obtain ⟨i, h1, h2, rfl⟩ := mem_drop hr
    have h3 := h.2.2.1 (by omega)
    have h4 := ok.mono k i h1 h2
    have h5 : (l.getD k (0, 0)).1 ≠ key := fun e => by have := h.2.2.2.2 ⟨by omega, e⟩; simp at this
    exact decide_eq_true (by omega)
  · intro r hr
    obtain ⟨i, h1, h2, rfl⟩ := mem_take hr
    have := h.2.1 i h1
    exact decide_eq_false (by omega)
theorem At.highs_yes {l : List (Int × Int)} {key : Int} {k : Nat} (h : At l key k true) (ok : Ok l) : highs key l = l.drop (k + 1) := by
  unfold M.highs
  rw [← List.take_append_drop (k + 1) l, List.filter_append, filter_no (l.take (k + 1)), filter_all (l.drop (k + 1))]
  · simp [List.take_append_drop]
  · intro r hr
    obtain ⟨i, h1, h2, rfl⟩ := mem_drop hr
    have h3 := h.yes
    have h4 := ok.asc k i h1 h2
    exact decide_eq_true (by omega)
  · intro r hr
    obtain ⟨i, h1, h2, rfl⟩ := mem_take hr
    have h3 := h.yes
    have h4 := ok.mono i k (by omega) h3.1
    exact decide_eq_false (by omega)
def putE (l : List (Int × Int)) (key val : Int) : Int := if asked l key ≠ 0 then asked l key else if val < -1 ∨ 996 < val then 3 else if 40 < (put key val l).length then 2 else 0
def putV (l : List (Int × Int)) (key val : Int) : List (Int × Int) := if putE l key val = 0 then put key val l else []
theorem putE_bad {l : List (Int × Int)} {key val : Int} (h : asked l key ≠ 0) : putE l key val = asked l key := by unfold putE; rw [if_pos h]
theorem putE_range {l : List (Int × Int)} {key val : Int} (h : asked l key = 0) (hv : val < -1 ∨ 996 < val) : putE l key val = 3 := by unfold putE; rw [if_neg (by omega), if_pos hv]
theorem putE_many {l : List (Int × Int)} {key val : Int} (h : asked l key = 0) (h1 : -1 ≤ val) (h2 : val ≤ 996) (h3 : 40 < (put key val l).length) : putE l key val = 2 := by unfold putE; rw [if_neg (by omega), if_neg (by omega), if_pos h3]
theorem putE_ok {l : List (Int × Int)} {key val : Int} (h : asked l key = 0) (h1 : -1 ≤ val) (h2 : val ≤ 996) (h3 : (put key val l).length ≤ 40) : putE l key val = 0 := by unfold putE; rw [if_neg (by omega), if_neg (by omega), if_neg (by omega)]
theorem putV_no {l : List (Int × Int)} {key val : Int} (h : putE l key val ≠ 0) : putV l key val = [] := by unfold putV; rw [if_neg h]
theorem putV_ok {l : List (Int × Int)} {key val : Int} (h : putE l key val = 0) : putV l key val = put key val l := by unfold putV; rw [if_pos h]
end Go.Proofs.YtcgpgflnihjpiagGreat.M

/- Put. -/
namespace Go.Proofs.YtcgpgflnihjpiagGreat
open Go.RowKit
theorem Own.lower {w : World} {base base' : Nat} {v : Value} {l : List (Int × Int)} (h : Own w base v l) (hb : base' ≤ base) : Own w base' v l := by
  obtain ⟨h1, h2⟩ := h
  refine ⟨h1, ?_⟩
  rcases h2 with h2 | ⟨g, cap, cur, hv, hg, r⟩
  · exact Or.inl h2
  · exact Or.inr ⟨g, cap, cur, hv, Nat.le_trans hb hg, r⟩
theorem concat3 (W0 : World) (c : Nat) (hc : W0.heap.size = c) (a0 a1 a2 : Option Addr) (n0 n1 n2 c0 c1 c2 : Nat) (L0 L1 L2 : List (Int × Int))
    (h0 : Rd W0 a0 n0 L0) (h1 : Rd W0 a1 n1 L1) (h2 : Rd W0 a2 n2 L2) (z0 : a0 = none → n0 = 0 ∧ c0 = 0) (z1 : a1 = none → n1 = 0 ∧ c1 = 0) (z2 : a2 = none → n2 = 0 ∧ c2 = 0) (hbig : n0 + n1 + n2 ≤ 1000000) :
    Calls Tryz.prog 153 #[.slice (some ⟨c, 0, none⟩) 3 3] (W0.alloc (.cells #[.slice a0 n0 c0, .slice a1 n1 c1, .slice a2 n2 c2] 47)) fun e w' => ∃ a nn cap, e = .returned (.slice a nn cap) ∧ Rd w' a nn (L0 ++ L1 ++ L2) ∧ nn ≤ cap ∧ cap ≤ maxLen ∧ ((a = none → nn = 0 ∧ cap = 0) ∧ Own w' W0.heap.size (.slice a nn cap) (L0 ++ L1 ++ L2)) ∧ Below W0.heap.size W0 w' := by
  subst hc
  obtain ⟨W, hW⟩ : ∃ W, W = W0.alloc (.cells #[.slice a0 n0 c0, .slice a1 n1 c1, .slice a2 n2 c2] 47) := ⟨_, rfl⟩
  have hb : Below W0.heap.size W0 W := by rw [hW]; exact (Below.refl _ _).alloc (Nat.le_refl _) _
  have hsz : W.heap.size = W0.heap.size + 1 := by rw [hW]; simp
  have hR : Rds W W0.heap.size 0 3 (fun i => if i = 0 then a0 else if i = 1 then a1 else a2) (fun i => if i = 0 then c0 else if i = 1 then c1 else c2) [L0, L1, L2] := by
    refine ⟨rfl, by omega, fun i hi => ?_⟩
    have e0 := h0.1
    have e1 := h1.1
    have e2 := h2.1
    match i, hi with
    | 0, _ => exact ⟨by rw [hW]; simp [go_sem, e0], by simpa [e0] using h0.below hb (Nat.le_refl _), by simpa [e0] using z0⟩
    | 1, _ => exact ⟨by rw [hW]; simp [go_sem, e1], by simpa [e1] using h1.below hb (Nat.le_refl _), by simpa [e1] using z1⟩
    | 2, _ => exact ⟨by rw [hW]; simp [go_sem, e2], by simpa [e2] using h2.below hb (Nat.le_refl _), by simpa [e2] using z2⟩
  rw [← hW]
  refine (concat_any W0.heap.size 0 3 3 _ _ [L0, L1, L2] W (by omega) hR (by simp [h0.1, h1.1, h2.1]; omega)).mono ?_
  rintro e w' ⟨v, rfl, hown, hb2⟩
  have ef : [L0, L1, L2].flatten = L0 ++ L1 ++ L2 := by simp
  rw [ef] at hown
  obtain ⟨a, cap, rfl, r1, r2, r3, r4⟩ := hown.rd
  exact ⟨a, _, cap, rfl, r1, r2, r3, ⟨r4, hown.lower (by omega)⟩, hb.trans (hb2.mono (by omega))⟩
def Done (w w' : World) (L : List (Int × Int)) (e : Ending) : Prop := ∃ a nn cap, e = .returned (.tuple #[.slice a nn cap, .int .i64 0]) ∧ Rd w' a nn L ∧ nn ≤ cap ∧ cap ≤ maxLen ∧ ((a = none → nn = 0 ∧ cap = 0) ∧ Own w' w.heap.size (.slice a nn cap) L) ∧ Below w.heap.size w w'
theorem Done.mk {w w1 w2 w' : World} {L L' : List (Int × Int)} {a : Option Addr} {nn cap : Nat} (hL : L' = L) (h1 : Rd w' a nn L) (h2 : nn ≤ cap) (h3 : cap ≤ maxLen) (h4 : (a = none → nn = 0 ∧ cap = 0) ∧ Own w' w2.heap.size (.slice a nn cap) L) (b1 : Below w.heap.size w w1) (b2 : Below w1.heap.size w1 w2) (b3 : Below w2.heap.size w2 w') :
    Done w w' L' (.returned (.tuple #[.slice a nn cap, .int .i64 0])) := by
  subst hL
  have b4 := b2.trans (b3.mono b2.size)
  exact ⟨a, nn, cap, rfl, h1, h2, h3, ⟨h4.1, h4.2.lower (Nat.le_trans b1.size b2.size)⟩, b1.trans (b4.mono b1.size)⟩
set_option maxHeartbeats 4000000 in
theorem put_some (b off n cap : Nat) (l : List (Int × Int)) (key val : Int) (w : World) (hcap : n ≤ cap) (_hcm : cap ≤ maxLen) (h : Rd w (some ⟨b, off, none⟩) n l) (hb : M.asked l key = 0) (hv : -1 ≤ val) (hv2 : val ≤ 996) (hfew : (M.put key val l).length ≤ 40) :
    Calls Tryz.prog 133 #[.slice (some ⟨b, off, none⟩) n cap, .int .i64 key, .int .i64 val] w fun e w' => Done w w' (M.put key val l) e := by
  have hz := M.asked_zero hb
  have hz2 := (M.chk_zero l).1 hz.1
  have hn40 : n ≤ 40 := by rw [← h.1]; exact hz2.1
  have H := asked_any (some ⟨b, off, none⟩) n cap l key w h (by omega)
  rw [hb] at H
  have HH : Hid (Calls Tryz.prog 151 #[.slice (some ⟨b, off, none⟩) n cap, .int .i64 key] w fun e w' => e = .returned (.int .i64 0) ∧ Below w.heap.size w w') := H
  have HR : Hid (Rd w (some ⟨b, off, none⟩) n l) := h
  have HZ : Hid (M.chk l = 0) := hz.1
  have HOk : Hid (M.Ok l) := hz2.2
  have HF : Hid ((M.put key val l).length ≤ 40) := hfew
  clear H hb hz h hz2 hfew
  unfold maxLen at _hcm
  have hd : decide (val < -1) = false := by simp; omega
  go_enter Tryz.func133, Tryz.ntmps133
  go_wp2_with fail
  refine HH.out.mono ?_
  rintro e w1 ⟨rfl, hb1⟩
  have HR1 : Hid (Rd w1 (some ⟨b, off, none⟩) n l) := HR.out.below hb1 (Nat.le_refl _)
  go_wp2_with fail
  refine (place_any (some ⟨b, off, none⟩) n cap l key w1 HR1.out HZ.out).mono ?_
  rintro e w2 ⟨k, t, rfl, hat, hb2⟩
  have hb3 := hb1.trans (hb2.mono hb1.size)
  have HR2 : Hid (Rd w2 (some ⟨b, off, none⟩) n l) := HR1.out.below hb2 (Nat.le_refl _)
  have hk : k ≤ n := by have := hat.1; rw [HR2.out.1] at this; exact this
  have HAt : Hid (M.At l key k t) := hat
  clear hat hb1 hb2
  cases t with
  | true =>
    have hk1 : k < n := by have := HAt.out.yes.1; rw [HR2.out.1] at this; exact this
    by_cases hv0 : val = -1
    · have hvb : (val != -1) = false := by simp [hv0]
      have E : Hid (M.put key val l = l.take k ++ [] ++ l.drop (k + 1)) := by unfold Hid M.put M.own; rw [HAt.out.lows HOk.out, HAt.out.highs_yes HOk.out, if_pos hv0]
      clear hv0
      go_wp2_with fail
      go_quiet (fail)
      go_wp2_with fail
      all_goals (
        have R := HR2.out.below (drewN_below w2 nq) (Nat.le_refl _)
        have R2 : Rd (w2.drewN nq) (some ⟨b, off + k * 2 + 2, none⟩) (n - k - 1) (l.drop (k + 1)) := by
          have h := R.drop (k + 1)
          rwa [show off + (k + 1) * 2 = off + k * 2 + 2 by omega, show n - (k + 1) = n - k - 1 by omega] at h
        refine (concat3 (w2.drewN nq) w2.heap.size rfl _ _ _ _ _ _ _ _ _ (l.take k) [] (l.drop (k + 1)) (R.take k hk) (Rd.zero rfl rfl) (by first | exact R2 | exact Rd.zero (by omega) R2.1) (by simp) (by simp) (by simp) (by omega)).mono ?_
        rintro e w3 ⟨a', nn, cap', rfl, r1, r2, r3, r4, hb4⟩
        have F : Hid (Done w w3 (M.put key val l) (.returned (.tuple #[.slice a' nn cap', .int .i64 0]))) := Done.mk E.out r1 r2 r3 r4 hb3 (drewN_below w2 nq) hb4
        clear r1 r2 r3 r4 R R2 hb4
        go_wp2
        go_ret2
        exact F.out)
    · have hvb : (val != -1) = true := by simp [hv0]
      have E : Hid (M.put key val l = l.take k ++ [(key, val)] ++ l.drop (k + 1)) := by unfold Hid M.put M.own; rw [HAt.out.lows HOk.out, HAt.out.highs_yes HOk.out, if_neg hv0]
      clear hv0
      go_wp2_with fail
      go_quiet (fail)
      go_wp2_with fail
      all_goals (
        have R := (HR2.out.below (drewN_below w2 nq) (Nat.le_refl _)).below (w' := (w2.drewN nq).alloc (.cells #[.int .i64 key, .int .i64 val] 56)) ((Below.refl _ _).alloc (Nat.le_refl _) _) (Nat.le_refl _)
        have R2 : Rd ((w2.drewN nq).alloc (.cells #[.int .i64 key, .int .i64 val] 56)) (some ⟨b, off + k * 2 + 2, none⟩) (n - k - 1) (l.drop (k + 1)) := by
          have h := R.drop (k + 1)
          rwa [show off + (k + 1) * 2 = off + k * 2 + 2 by omega, show n - (k + 1) = n - k - 1 by omega] at h
        refine (concat3 ((w2.drewN nq).alloc (.cells #[.int .i64 key, .int .i64 val] 56)) (w2.heap.size + 1) (by simp) _ _ _ _ _ _ _ _ _ (l.take k) [(key, val)] (l.drop (k + 1)) (R.take k hk) (one_rd (w2.drewN nq) key val) (by first | exact R2 | exact Rd.zero (by omega) R2.1) (by simp) (by simp) (by simp) (by omega)).mono ?_
        rintro e w3 ⟨a', nn, cap', rfl, r1, r2, r3, r4, hb4⟩
        have F : Hid (Done w w3 (M.put key val l) (.returned (.tuple #[.slice a' nn cap', .int .i64 0]))) := Done.mk E.out r1 r2 r3 r4 hb3 ((drewN_below w2 nq).alloc (Nat.le_refl _) _) hb4
        clear r1 r2 r3 r4 R R2 hb4
        go_wp2
        go_ret2
        exact F.out)
  | false =>
    by_cases hv0 : val = -1
    · have hvb : (val != -1) = false := by simp [hv0]
      have E : Hid (M.put key val l = l.take k ++ [] ++ l.drop k) := by unfold Hid M.put M.own; rw [HAt.out.lows HOk.out, HAt.out.highs_no HOk.out, if_pos hv0]
      clear hv0
      go_wp2_with fail
      go_quiet (fail)
      go_wp2_with fail
      all_goals (
        have R := HR2.out.below (drewN_below w2 nq) (Nat.le_refl _)
        have R2 : Rd (w2.drewN nq) (some ⟨b, off + k * 2, none⟩) (n - k) (l.drop k) := by
          exact R.drop k
        refine (concat3 (w2.drewN nq) w2.heap.size rfl _ _ _ _ _ _ _ _ _ (l.take k) [] (l.drop k) (R.take k hk) (Rd.zero rfl rfl) (by first | exact R2 | exact Rd.zero (by omega) R2.1) (by simp) (by simp) (by simp) (by omega)).mono ?_
        rintro e w3 ⟨a', nn, cap', rfl, r1, r2, r3, r4, hb4⟩
        have F : Hid (Done w w3 (M.put key val l) (.returned (.tuple #[.slice a' nn cap', .int .i64 0]))) := Done.mk E.out r1 r2 r3 r4 hb3 (drewN_below w2 nq) hb4
        clear r1 r2 r3 r4 R R2 hb4
        go_wp2
        go_ret2
        exact F.out)
    · have hvb : (val != -1) = true := by simp [hv0]
      have E : Hid (M.put key val l = l.take k ++ [(key, val)] ++ l.drop k) := by unfold Hid M.put M.own; rw [HAt.out.lows HOk.out, HAt.out.highs_no HOk.out, if_neg hv0]
      have hn39 : n ≤ 39 := by
        have h := HF.out
        rw [E.out] at h
        simp only [List.length_append, List.length_take, List.length_drop, List.length_cons, List.length_nil, HR2.out.1] at h
        omega
      clear hv0
      go_wp2_with fail
      go_quiet (fail)
      go_wp2_with fail
      all_goals (
        have R := (HR2.out.below (drewN_below w2 nq) (Nat.le_refl _)).below (w' := (w2.drewN nq).alloc (.cells #[.int .i64 key, .int .i64 val] 56)) ((Below.refl _ _).alloc (Nat.le_refl _) _) (Nat.le_refl _)
        have R2 : Rd ((w2.drewN nq).alloc (.cells #[.int .i64 key, .int .i64 val] 56)) (some ⟨b, off + k * 2, none⟩) (n - k) (l.drop k) := by
          exact R.drop k
        refine (concat3 ((w2.drewN nq).alloc (.cells #[.int .i64 key, .int .i64 val] 56)) (w2.heap.size + 1) (by simp) _ _ _ _ _ _ _ _ _ (l.take k) [(key, val)] (l.drop k) (R.take k hk) (one_rd (w2.drewN nq) key val) (by first | exact R2 | exact Rd.zero (by omega) R2.1) (by simp) (by simp) (by simp) (by omega)).mono ?_
        rintro e w3 ⟨a', nn, cap', rfl, r1, r2, r3, r4, hb4⟩
        have F : Hid (Done w w3 (M.put key val l) (.returned (.tuple #[.slice a' nn cap', .int .i64 0]))) := Done.mk E.out r1 r2 r3 r4 hb3 ((drewN_below w2 nq).alloc (Nat.le_refl _) _) hb4
        clear r1 r2 r3 r4 R R2 hb4
        go_wp2
        go_ret2
        exact F.out)
set_option maxHeartbeats 1000000 in
theorem put_bad (a : Option Addr) (n cap : Nat) (l : List (Int × Int)) (key val : Int) (w : World) (h : Rd w a n l) (hm : n ≤ 9223372036854775807) (hb : M.asked l key ≠ 0) :
    Calls Tryz.prog 133 #[.slice a n cap, .int .i64 key, .int .i64 val] w fun e w' => e = .returned (.tuple #[.slice none 0 0, .int .i64 (M.asked l key)]) ∧ Below w.heap.size w w' := by
  have H := asked_any a n cap l key w h hm
  obtain ⟨c, hc⟩ : ∃ c, c = M.asked l key := ⟨_, rfl⟩
  rw [← hc] at H hb ⊢
  clear hc h
  have hne : (c != 0) = true := by simp [hb]
  clear hb
  have HH : Hid (Calls Tryz.prog 151 #[.slice a n cap, .int .i64 key] w fun e w' => e = .returned (.int .i64 c) ∧ Below w.heap.size w w') := H
  clear H
  go_enter Tryz.func133, Tryz.ntmps133
  go_wp2_with (go_at_call 151; refine HH.out.mono ?_; rintro e w' ⟨rfl, hb1⟩)
  go_ret2
  exact ⟨rfl, hb1⟩
set_option maxHeartbeats 1000000 in
theorem put_range (a : Option Addr) (n cap : Nat) (l : List (Int × Int)) (key val : Int) (w : World) (h : Rd w a n l) (hm : n ≤ 9223372036854775807) (hb : M.asked l key = 0) (hv : val < -1 ∨ 996 < val) :
    Calls Tryz.prog 133 #[.slice a n cap, .int .i64 key, .int .i64 val] w fun e w' => e = .returned (.tuple #[.slice none 0 0, .int .i64 3]) ∧ Below w.heap.size w w' := by
  have H := asked_any a n cap l key w h hm
  rw [hb] at H
  clear h hb
  have HH : Hid (Calls Tryz.prog 151 #[.slice a n cap, .int .i64 key] w fun e w' => e = .returned (.int .i64 0) ∧ Below w.heap.size w w') := H
  clear H
  rcases hv with hv | hv
  · go_enter Tryz.func133, Tryz.ntmps133
    go_wp2_with (go_at_call 151; refine HH.out.mono ?_; rintro e w' ⟨rfl, hb1⟩)
    go_ret2
    exact ⟨rfl, hb1⟩
  · have hd : decide (val < -1) = false := by simp; omega
    go_enter Tryz.func133, Tryz.ntmps133
    go_wp2_with (go_at_call 151; refine HH.out.mono ?_; rintro e w' ⟨rfl, hb1⟩)
    go_ret2
    exact ⟨rfl, hb1⟩
set_option maxHeartbeats 2000000 in
theorem put_many (b off n cap : Nat) (l : List (Int × Int)) (key val : Int) (w : World) (hcap : n ≤ cap) (_hcm : cap ≤ maxLen) (h : Rd w (some ⟨b, off, none⟩) n l) (hb : M.asked l key = 0) (hv : -1 ≤ val) (hv2 : val ≤ 996) (hmany : 40 < (M.put key val l).length) :
    Calls Tryz.prog 133 #[.slice (some ⟨b, off, none⟩) n cap, .int .i64 key, .int .i64 val] w fun e w' => e = .returned (.tuple #[.slice none 0 0, .int .i64 2]) ∧ Below w.heap.size w w' := by
  have hz := M.asked_zero hb
  have hz2 := (M.chk_zero l).1 hz.1
  have hn40 : n ≤ 40 := by rw [← h.1]; exact hz2.1
  have H := asked_any (some ⟨b, off, none⟩) n cap l key w h (by omega)
  rw [hb] at H
  have HH : Hid (Calls Tryz.prog 151 #[.slice (some ⟨b, off, none⟩) n cap, .int .i64 key] w fun e w' => e = .returned (.int .i64 0) ∧ Below w.heap.size w w') := H
  have HR : Hid (Rd w (some ⟨b, off, none⟩) n l) := h
  have HZ : Hid (M.chk l = 0) := hz.1
  have HOk : Hid (M.Ok l) := hz2.2
  have HF : Hid (40 < (M.put key val l).length) := hmany
  clear H hb hz h hz2 hmany
  unfold maxLen at _hcm
  have hd : decide (val < -1) = false := by simp; omega
  go_enter Tryz.func133, Tryz.ntmps133
  go_wp2_with fail
  refine HH.out.mono ?_
  rintro e w1 ⟨rfl, hb1⟩
  have HR1 : Hid (Rd w1 (some ⟨b, off, none⟩) n l) := HR.out.below hb1 (Nat.le_refl _)
  go_wp2_with fail
  refine (place_any (some ⟨b, off, none⟩) n cap l key w1 HR1.out HZ.out).mono ?_
  rintro e w2 ⟨k, t, rfl, hat, hb2⟩
  have hb3 := hb1.trans (hb2.mono hb1.size)
  have HR2 : Hid (Rd w2 (some ⟨b, off, none⟩) n l) := HR1.out.below hb2 (Nat.le_refl _)
  have hk : k ≤ n := by have := hat.1; rw [HR2.out.1] at this; exact this
  have HAt : Hid (M.At l key k t) := hat
  clear hat hb1 hb2
  cases t with
  | true =>
    have hk1 : k < n := by have := HAt.out.yes.1; rw [HR2.out.1] at this; exact this
    have h := HF.out
    have h2 : (M.own key val).length ≤ 1 := by unfold M.own; split <;> simp
    unfold M.put at h
    rw [HAt.out.lows HOk.out, HAt.out.highs_yes HOk.out] at h
    simp only [List.length_append, List.length_take, List.length_drop, HR2.out.1] at h
    omega
  | false =>
    have h := HF.out
    unfold M.put at h
    rw [HAt.out.lows HOk.out, HAt.out.highs_no HOk.out] at h
    simp only [List.length_append, List.length_take, List.length_drop, HR2.out.1] at h
    have h2 : (M.own key val).length ≤ 1 := by unfold M.own; split <;> simp
    have hv0 : val ≠ -1 := by
      intro e
      unfold M.own at h
      rw [if_pos e] at h
      simp at h
      omega
    have hn : 40 ≤ n := by omega
    clear h h2
    have hvb : (val != -1) = true := by simp [hv0]
    clear hv0
    go_wp2_with fail
    go_quiet (fail)
    go_wp2_with fail
    all_goals (
      go_ret2
      exact ⟨rfl, (below_drewN hb3 nq).alloc (Nat.le_trans hb3.size (Nat.le_refl _)) _⟩)
theorem at_nil {key : Int} {k : Nat} {t : Bool} (h : M.At [] key k t) : k = 0 ∧ t = false := by
  obtain ⟨h1, _, _, h4⟩ := h
  refine ⟨by simpa using h1, ?_⟩
  cases t with
  | false => rfl
  | true => have := h4.1 rfl; simp at this
set_option maxHeartbeats 2000000 in
theorem put_none (a : Option Addr) (cap : Nat) (key val : Int) (w : World) (_hcm : cap ≤ maxLen) (hnil : a = none → cap = 0) (hb : M.asked [] key = 0) (hv : -1 ≤ val) (hv2 : val ≤ 996) :
    Calls Tryz.prog 133 #[.slice a 0 cap, .int .i64 key, .int .i64 val] w fun e w' => Done w w' (M.put key val []) e := by
  have h : Rd w a 0 [] := Rd.zero rfl rfl
  have hz := M.asked_zero hb
  have H := asked_any a 0 cap [] key w h (by omega)
  rw [hb] at H
  have HH : Hid (Calls Tryz.prog 151 #[.slice a 0 cap, .int .i64 key] w fun e w' => e = .returned (.int .i64 0) ∧ Below w.heap.size w w') := H
  have HZ : Hid (M.chk [] = 0) := hz.1
  clear H hb hz h
  unfold maxLen at _hcm
  have hd : decide (val < -1) = false := by simp; omega
  have HN : Hid (a = none → cap = 0) := hnil
  clear hnil
  go_enter Tryz.func133, Tryz.ntmps133
  go_wp2_with fail
  refine HH.out.mono ?_
  rintro e w1 ⟨rfl, hb1⟩
  go_wp2_with fail
  refine (place_any a 0 cap [] key w1 (Rd.zero rfl rfl) HZ.out).mono ?_
  rintro e w2 ⟨k, t, rfl, hat, hb2⟩
  obtain ⟨rfl, rfl⟩ := at_nil hat
  have hb3 := hb1.trans (hb2.mono hb1.size)
  clear hat hb1 hb2
  cases a with
  | none =>
    obtain rfl : cap = 0 := HN.out rfl
    by_cases hv0 : val = -1
    · have hvb : (val != -1) = false := by simp [hv0]
      have E : Hid (M.put key val [] = [] ++ [] ++ []) := by unfold Hid M.put M.own; rw [if_pos hv0]; rfl
      clear hv0
      go_wp2_with fail
      go_quiet (fail)
      go_wp2_with fail
      all_goals (
        refine (concat3 (w2.drewN nq) w2.heap.size rfl _ _ _ _ _ _ _ _ _ [] [] [] (Rd.zero rfl rfl) (Rd.zero rfl rfl) (Rd.zero rfl rfl) (by simp) (by simp) (by simp) (by omega)).mono ?_
        rintro e w3 ⟨a', nn, cap', rfl, r1, r2, r3, r4, hb4⟩
        have F : Hid (Done w w3 (M.put key val []) (.returned (.tuple #[.slice a' nn cap', .int .i64 0]))) := Done.mk E.out r1 r2 r3 r4 hb3 (drewN_below w2 nq) hb4
        clear r1 r2 r3 r4 hb4
        go_wp2
        go_ret2
        exact F.out)
    · have hvb : (val != -1) = true := by simp [hv0]
      have E : Hid (M.put key val [] = [] ++ [(key, val)] ++ []) := by unfold Hid M.put M.own; rw [if_neg hv0]; rfl
      clear hv0
      go_wp2_with fail
      go_quiet (fail)
      go_wp2_with fail
      all_goals (
        refine (concat3 ((w2.drewN nq).alloc (.cells #[.int .i64 key, .int .i64 val] 56)) (w2.heap.size + 1) (by simp) _ _ _ _ _ _ _ _ _ [] [(key, val)] [] (Rd.zero rfl rfl) (one_rd (w2.drewN nq) key val) (Rd.zero rfl rfl) (by simp) (by simp) (by simp) (by omega)).mono ?_
        rintro e w3 ⟨a', nn, cap', rfl, r1, r2, r3, r4, hb4⟩
        have F : Hid (Done w w3 (M.put key val []) (.returned (.tuple #[.slice a' nn cap', .int .i64 0]))) := Done.mk E.out r1 r2 r3 r4 hb3 ((drewN_below w2 nq).alloc (Nat.le_refl _) _) hb4
        clear r1 r2 r3 r4 hb4
        go_wp2
        go_ret2
        exact F.out)
  | some ad =>
    obtain ⟨b, off, spot⟩ := ad
    by_cases hv0 : val = -1
    · have hvb : (val != -1) = false := by simp [hv0]
      have E : Hid (M.put key val [] = [] ++ [] ++ []) := by unfold Hid M.put M.own; rw [if_pos hv0]; rfl
      clear hv0
      go_wp2_with fail
      go_quiet (fail)
      go_wp2_with fail
      all_goals (
        refine (concat3 (w2.drewN nq) w2.heap.size rfl _ _ _ _ _ _ _ _ _ [] [] [] (Rd.zero rfl rfl) (Rd.zero rfl rfl) (Rd.zero rfl rfl) (by simp) (by simp) (by simp) (by omega)).mono ?_
        rintro e w3 ⟨a', nn, cap', rfl, r1, r2, r3, r4, hb4⟩
        have F : Hid (Done w w3 (M.put key val []) (.returned (.tuple #[.slice a' nn cap', .int .i64 0]))) := Done.mk E.out r1 r2 r3 r4 hb3 (drewN_below w2 nq) hb4
        clear r1 r2 r3 r4 hb4
        go_wp2
        go_ret2
        exact F.out)
    · have hvb : (val != -1) = true := by simp [hv0]
      have E : Hid (M.put key val [] = [] ++ [(key, val)] ++ []) := by unfold Hid M.put M.own; rw [if_neg hv0]; rfl
      clear hv0
      go_wp2_with fail
      go_quiet (fail)
      go_wp2_with fail
      all_goals (
        refine (concat3 ((w2.drewN nq).alloc (.cells #[.int .i64 key, .int .i64 val] 56)) (w2.heap.size + 1) (by simp) _ _ _ _ _ _ _ _ _ [] [(key, val)] [] (Rd.zero rfl rfl) (one_rd (w2.drewN nq) key val) (Rd.zero rfl rfl) (by simp) (by simp) (by simp) (by omega)).mono ?_
        rintro e w3 ⟨a', nn, cap', rfl, r1, r2, r3, r4, hb4⟩
        have F : Hid (Done w w3 (M.put key val []) (.returned (.tuple #[.slice a' nn cap', .int .i64 0]))) := Done.mk E.out r1 r2 r3 r4 hb3 ((drewN_below w2 nq).alloc (Nat.le_refl _) _) hb4
        clear r1 r2 r3 r4 hb4
        go_wp2
        go_ret2
        exact F.out)
def HandsO (w w' : World) (L : List (Int × Int)) (c : Int) (e : Ending) : Prop := ∃ a nn cap, e = .returned (.tuple #[.slice a nn cap, .int .i64 c]) ∧ Rd w' a nn L ∧ nn ≤ cap ∧ cap ≤ maxLen ∧ ((a = none → nn = 0 ∧ cap = 0) ∧ Own w' w.heap.size (.slice a nn cap) L) ∧ Below w.heap.size w w'
theorem HandsO.err {w w' : World} (c : Int) (hb : Below w.heap.size w w') : HandsO w w' [] c (.returned (.tuple #[.slice none 0 0, .int .i64 c])) :=
  ⟨none, 0, 0, rfl, Rd.zero rfl rfl, Nat.le_refl _, by simp [maxLen], ⟨fun _ => ⟨rfl, rfl⟩, World.ownsRow_nil _ _ _ _⟩, hb⟩
theorem put_own (a : Option Addr) (n cap : Nat) (l : List (Int × Int)) (key val : Int) (w : World) (h : Rd w a n l) (hcap : n ≤ cap) (hcm : cap ≤ maxLen) (hnil : a = none → n = 0 ∧ cap = 0) :
    Calls Tryz.prog 133 #[.slice a n cap, .int .i64 key, .int .i64 val] w fun e w' => HandsO w w' (M.putV l key val) (M.putE l key val) e := by
  have hm : n ≤ 9223372036854775807 := by unfold maxLen at hcm; omega
  by_cases hb : M.asked l key = 0
  · by_cases hv : val < -1 ∨ 996 < val
    · have e1 := M.putE_range hb hv
      rw [M.putV_no (by omega), e1]
      refine (put_range a n cap l key val w h hm hb hv).mono ?_
      rintro e w' ⟨rfl, hb1⟩
      exact HandsO.err 3 hb1
    · by_cases hmany : 40 < (M.put key val l).length
      · have e1 := M.putE_many hb (by omega) (by omega) hmany
        rw [M.putV_no (by omega), e1]
        rcases h.cases with ⟨rfl, rfl⟩ | ⟨b, off, rfl, hn, hl, hB, hc⟩
        · exfalso
          have h2 : (M.own key val).length ≤ 1 := by unfold M.own; split <;> simp
          simp [M.put, M.lows, M.highs] at hmany
          omega
        · refine (put_many b off n cap l key val w hcap hcm h hb (by omega) (by omega) hmany).mono ?_
          rintro e w' ⟨rfl, hb1⟩
          exact HandsO.err 2 hb1
      · have e1 := M.putE_ok hb (val := val) (by omega) (by omega) (by omega)
        rw [M.putV_ok e1, e1]
        rcases h.cases with ⟨rfl, rfl⟩ | ⟨b, off, rfl, hn, hl, hB, hc⟩
        · exact put_none a cap key val w hcm (fun h => (hnil h).2) hb (by omega) (by omega)
        · exact put_some b off n cap l key val w hcap hcm h hb (by omega) (by omega) (by omega)
  · have e1 := M.putE_bad (val := val) hb
    rw [M.putV_no (by omega), e1]
    refine (put_bad a n cap l key val w h hm hb).mono ?_
    rintro e w' ⟨rfl, hb1⟩
    exact HandsO.err _ hb1
theorem same_len (a a2 : Option Addr) (n n2 cap cap2 : Nat) (w : World) (h : n ≠ n2) :
    Calls Tryz.prog 21 #[.slice a n cap, .slice a2 n2 cap2] w fun e w' => e = .returned (.bool false) ∧ w' = w := by
  have hb : ((n : Int) != (n2 : Int)) = true := by simp; omega
  go_enter Tryz.func21, Tryz.ntmps21
  go_wp2
  go_ret
  exact ⟨rfl, rfl⟩
theorem same_none (a a2 : Option Addr) (cap cap2 : Nat) (w : World) :
    Calls Tryz.prog 21 #[.slice a 0 cap, .slice a2 0 cap2] w fun e w' => e = .returned (.bool true) ∧ w' = w := by
  go_enter Tryz.func21, Tryz.ntmps21
  go_wp2
  refine wp_loop_rounds 1 ?_
  rw [rounds_succ]
  go_wp2
  go_ret
  exact ⟨rfl, rfl⟩
theorem eq_drop (l l2 : List (Int × Int)) (k : Nat) (h : k < l.length) (h2 : k < l2.length) : (l.drop k = l2.drop k) ↔ l.getD k (0, 0) = l2.getD k (0, 0) ∧ l.drop (k + 1) = l2.drop (k + 1) := by
  rw [M.drop_at l k h, M.drop_at l2 k h2, List.cons.injEq]
theorem ret_no {p : Prop} [Decidable p] (h : ¬ p) : Ending.returned (.bool false) = .returned (.bool (decide p)) := by rw [decide_eq_false h]
theorem ret_yes {p : Prop} [Decidable p] (h : p) : Ending.returned (.bool true) = .returned (.bool (decide p)) := by rw [decide_eq_true h]
set_option maxHeartbeats 2000000 in
theorem same_some (b off b2 off2 n cap cap2 : Nat) (l l2 : List (Int × Int)) (w : World) (hm : n ≤ 9223372036854775807) (hl : l.length = n) (hl2 : l2.length = n)
    (hc : ∀ i, i < n → w.cell? ⟨b, off + i * 2, none⟩ = some (.int .i64 (l.getD i (0, 0)).1) ∧ w.cell? ⟨b, off + i * 2 + 1, none⟩ = some (.int .i64 (l.getD i (0, 0)).2))
    (hc2 : ∀ i, i < n → w.cell? ⟨b2, off2 + i * 2, none⟩ = some (.int .i64 (l2.getD i (0, 0)).1) ∧ w.cell? ⟨b2, off2 + i * 2 + 1, none⟩ = some (.int .i64 (l2.getD i (0, 0)).2)) :
    Calls Tryz.prog 21 #[.slice (some ⟨b, off, none⟩) n cap, .slice (some ⟨b2, off2, none⟩) n cap2] w fun e w' => e = .returned (.bool (decide (l = l2))) ∧ ∃ m, w' = w.drewN m := by
  have HC : Aside (∀ i, i < n → w.cell? ⟨b, off + i * 2, none⟩ = some (.int .i64 (l.getD i (0, 0)).1) ∧ w.cell? ⟨b, off + i * 2 + 1, none⟩ = some (.int .i64 (l.getD i (0, 0)).2)) := hc
  have HC2 : Aside (∀ i, i < n → w.cell? ⟨b2, off2 + i * 2, none⟩ = some (.int .i64 (l2.getD i (0, 0)).1) ∧ w.cell? ⟨b2, off2 + i * 2 + 1, none⟩ = some (.int .i64 (l2.getD i (0, 0)).2)) := hc2
  have HL : Aside (l.length = n) := hl
  have HL2 : Aside (l2.length = n) := hl2
  clear hc hl hc2 hl2
  go_enter Tryz.func21, Tryz.ntmps21
  go_wp2
  go_loopg [5] n (fun g i wr => ∃ k m : Nat, k + g = n ∧ i = .int .i64 k ∧ wr = w.drewN m ∧ Aside (l.drop k = l2.drop k ↔ l = l2))
  case atStart => exact ⟨0, 0, by omega, rfl, rfl, by simp [Aside]⟩
  case round =>
    obtain ⟨k, m, hk, rfl, rfl, A⟩ := hrel
    by_cases hlt : k < n
    · obtain ⟨x, y, hxy⟩ : ∃ x y, l.getD k (0, 0) = (x, y) := ⟨_, _, rfl⟩
      obtain ⟨x2, y2, hxy2⟩ : ∃ x y, l2.getD k (0, 0) = (x, y) := ⟨_, _, rfl⟩
      have c0 : w.cell? ⟨b, off + k * 2, none⟩ = some (.int .i64 x) := by rw [(HC.out k hlt).1, hxy]
      have c1 : w.cell? ⟨b, off + k * 2 + 1, none⟩ = some (.int .i64 y) := by rw [(HC.out k hlt).2, hxy]
      have d0 : w.cell? ⟨b2, off2 + k * 2, none⟩ = some (.int .i64 x2) := by rw [(HC2.out k hlt).1, hxy2]
      have d1 : w.cell? ⟨b2, off2 + k * 2 + 1, none⟩ = some (.int .i64 y2) := by rw [(HC2.out k hlt).2, hxy2]
      have ed := eq_drop l l2 k (by rw [HL.out]; exact hlt) (by rw [HL2.out]; exact hlt)
      rw [hxy, hxy2, A.out] at ed
      have ED : Aside (l = l2 ↔ (x, y) = (x2, y2) ∧ l.drop (k + 1) = l2.drop (k + 1)) := ed
      clear hxy hxy2 ed A
      have hki : (k : Int) < (n : Int) := by omega
      by_cases hx : x = x2
      · have hxb : (x == x2) = true := by simp [hx]
        by_cases hy : y = y2
        · have hyb : (y == y2) = true := by simp [hy]
          have A1 : Aside (l.drop (k + 1) = l2.drop (k + 1) ↔ l = l2) := by unfold Aside; rw [ED.out]; simp [hx, hy]
          clear hx hy
          go_wp2_with fail
          go_quiet (fail)
          go_wp2
          go_roundg (gk - 1)
          case measure => omega
          case rel => exact ⟨k + 1, m + nq, by omega, by go_num, rfl, A1⟩
        · have hyb : (y == y2) = false := by simp [hy]
          have A1 : Aside (l ≠ l2) := by unfold Aside; intro e; have h := (ED.out.1 e).1; simp [hy] at h
          clear hx hy
          go_wp2_with fail
          go_quiet (fail)
          go_wp2
          go_ret
          exact ⟨ret_no A1.out, m + nq, World.drewN_drewN _ _ _⟩
      · have hxb : (x == x2) = false := by simp [hx]
        have A1 : Aside (l ≠ l2) := by unfold Aside; intro e; have h := (ED.out.1 e).1; simp [hx] at h
        clear hx
        go_wp2_with fail
        go_quiet (fail)
        go_wp2
        go_ret
        exact ⟨ret_no A1.out, m + nq, World.drewN_drewN _ _ _⟩
    · go_wp2
      go_ret
      exact ⟨ret_yes (A.out.1 (by rw [List.drop_eq_nil_of_le (by rw [HL.out]; omega), List.drop_eq_nil_of_le (by rw [HL2.out]; omega)])), m, rfl⟩
theorem same_any (a a2 : Option Addr) (n n2 cap cap2 : Nat) (l l2 : List (Int × Int)) (w : World) (h : Rd w a n l) (h2 : Rd w a2 n2 l2) (hm : n ≤ 9223372036854775807) :
    Calls Tryz.prog 21 #[.slice a n cap, .slice a2 n2 cap2] w fun e w' => e = .returned (.bool (decide (l = l2))) ∧ Below w.heap.size w w' := by
  by_cases hn : n = n2
  · subst hn
    rcases h.cases with ⟨rfl, rfl⟩ | ⟨b, off, rfl, hn, hl, hB, hc⟩
    · have e2 : l2 = [] := List.eq_nil_of_length_eq_zero h2.1
      subst e2
      refine (same_none a a2 cap cap2 w).mono ?_
      rintro e w' ⟨rfl, rfl⟩
      exact ⟨rfl, Below.refl _ _⟩
    · rcases h2.cases with ⟨rfl, rfl⟩ | ⟨b2, off2, rfl, hn2, hl2, hB2, hc2⟩
      · omega
      · refine (same_some b off b2 off2 n cap cap2 l l2 w hm hl hl2 hc hc2).mono ?_
        rintro e w' ⟨rfl, m, rfl⟩
        exact ⟨rfl, drewN_below w m⟩
  · refine (same_len a a2 n n2 cap cap2 w hn).mono ?_
    rintro e w' ⟨rfl, rfl⟩
    exact ⟨ret_no (fun e => hn (by rw [← h.1, ← h2.1, e])), Below.refl _ _⟩
theorem below2 {w a b : World} (h : Below w.heap.size w a) (k : Below a.heap.size a b) : Below w.heap.size w b := h.trans (k.mono h.size)
theorem value_none (a : Option Addr) (cap : Nat) (key : Int) (w : World) :
    Calls Tryz.prog 150 #[.slice a 0 cap, .int .i64 key] w fun e w' => e = .returned (.int .i64 (-1)) ∧ w' = w := by
  go_enter Tryz.func150, Tryz.ntmps150
  go_wp2
  refine wp_loop_rounds 1 ?_
  rw [rounds_succ]
  go_wp2
  go_ret
  exact ⟨rfl, rfl⟩
set_option maxHeartbeats 1000000 in
theorem value_some (b off n cap : Nat) (l : List (Int × Int)) (key : Int) (w : World) (hn : n ≤ 40) (hl : l.length = n)
    (hc : ∀ i, i < n → w.cell? ⟨b, off + i * 2, none⟩ = some (.int .i64 (l.getD i (0, 0)).1) ∧ w.cell? ⟨b, off + i * 2 + 1, none⟩ = some (.int .i64 (l.getD i (0, 0)).2)) :
    Calls Tryz.prog 150 #[.slice (some ⟨b, off, none⟩) n cap, .int .i64 key] w fun e w' => e = .returned (.int .i64 (M.find key l)) ∧ w' = w := by
  have HC : Aside (∀ i, i < n → w.cell? ⟨b, off + i * 2, none⟩ = some (.int .i64 (l.getD i (0, 0)).1) ∧ w.cell? ⟨b, off + i * 2 + 1, none⟩ = some (.int .i64 (l.getD i (0, 0)).2)) := hc
  have HL : Aside (l.length = n) := hl
  clear hc hl
  go_enter Tryz.func150, Tryz.ntmps150
  go_wp2
  go_loopg [5] n (fun g i wr => ∃ k : Nat, k + g = n ∧ i = .int .i64 k ∧ wr = w ∧ Aside (M.find key (l.drop k) = M.find key l))
  case atStart => exact ⟨0, by omega, rfl, rfl, by simp [Aside]⟩
  case round =>
    obtain ⟨k, hk, rfl, rfl, A⟩ := hrel
    by_cases hlt : k < n
    · obtain ⟨x, y, hxy⟩ : ∃ x y, l.getD k (0, 0) = (x, y) := ⟨_, _, rfl⟩
      have c0 : wr.cell? ⟨b, off + k * 2, none⟩ = some (.int .i64 x) := by rw [(HC.out k hlt).1, hxy]
      have c1 : wr.cell? ⟨b, off + k * 2 + 1, none⟩ = some (.int .i64 y) := by rw [(HC.out k hlt).2, hxy]
      have HXY : Aside (l.getD k (0, 0) = (x, y)) := hxy
      clear hxy
      by_cases hx : x = key
      · have HX : Aside (x = key) := hx
        have hb : (x == key) = true := by simp [hx]
        clear hx
        go_wp2
        go_ret
        exact ⟨ret_int (A.out.symm.trans (M.find_here key l k (by rw [HL.out]; exact hlt) x y HXY.out HX.out)).symm, rfl⟩
      · have hb : (x == key) = false := by simp [hx]
        go_wp2
        go_roundg (gk - 1)
        case measure => omega
        case rel => exact ⟨k + 1, by omega, by go_num, rfl, by unfold Aside; rw [← A.out, M.find_step key l k (by rw [HL.out]; exact hlt) x y HXY.out hx]⟩
    · go_wp2
      go_ret
      exact ⟨ret_int (A.out.symm.trans (M.find_end key l k (by rw [HL.out]; omega))).symm, rfl⟩
theorem value_any (a : Option Addr) (n cap : Nat) (l : List (Int × Int)) (key : Int) (w : World) (h : Rd w a n l) (hn : n ≤ 40) :
    Calls Tryz.prog 150 #[.slice a n cap, .int .i64 key] w fun e w' => e = .returned (.int .i64 (M.find key l)) ∧ w' = w := by
  rcases h.cases with ⟨rfl, rfl⟩ | ⟨b, off, rfl, hn0, hl, hB, hc⟩
  · exact value_none a cap key w
  · exact value_some b off n cap l key w hn hl hc
end Go.Proofs.YtcgpgflnihjpiagGreat

/- Put1. -/
namespace Go.Proofs.YtcgpgflnihjpiagGreat.M
theorem mem_lows {key : Int} {l : List (Int × Int)} {r : Int × Int} : r ∈ lows key l ↔ r ∈ l ∧ r.1 < key := by simp [lows]
theorem mem_highs {key : Int} {l : List (Int × Int)} {r : Int × Int} : r ∈ highs key l ↔ r ∈ l ∧ key < r.1 := by simp [highs]
theorem mem_own {key val : Int} {r : Int × Int} : r ∈ own key val ↔ val ≠ -1 ∧ r = (key, val) := by
  unfold own; split <;> simp_all
theorem mem_put {key val : Int} {l : List (Int × Int)} {r : Int × Int} : r ∈ put key val l ↔ (r ∈ l ∧ r.1 ≠ key) ∨ (val ≠ -1 ∧ r = (key, val)) := by
  unfold put
  rw [List.mem_append, List.mem_append, mem_lows, mem_highs, mem_own]
  constructor
  · rintro ((⟨h1, h2⟩ | h) | ⟨h1, h2⟩)
    · exact Or.inl ⟨h1, by omega⟩
    · exact Or.inr h
    · exact Or.inl ⟨h1, by omega⟩
  · rintro (⟨h1, h2⟩ | h)
    · rcases Int.lt_or_gt_of_ne h2 with h | h
      · exact Or.inl (Or.inl ⟨h1, h⟩)
      · exact Or.inr ⟨h1, h⟩
    · exact Or.inl (Or.inr h)
theorem put_ok {key val : Int} {l : List (Int × Int)} (ok : Ok l) (h0 : 0 ≤ key) (h1 : key ≤ 99) (v0 : -1 ≤ val) (v1 : val ≤ 996) : Ok (put key val l) := by
  refine ⟨fun r hr => ?_, ?_⟩
  · rcases mem_put.1 hr with ⟨h, _⟩ | ⟨h, rfl⟩
    · exact ok.1 r h
    · exact ⟨h0, h1, by show 0 ≤ val; omega, v1⟩
  · unfold put
    rw [List.pairwise_append, List.pairwise_append]
    refine ⟨⟨ok.2.sublist List.filter_sublist, ?_, ?_⟩, ok.2.sublist List.filter_sublist, ?_⟩
    · unfold own; split <;> simp
    · intro x hx y hy
      have h2 := (mem_lows.1 hx).2
      obtain ⟨_, rfl⟩ := mem_own.1 hy
      exact h2
    · intro x hx y hy
      have h2 := (mem_highs.1 hy).2
      rcases List.mem_append.1 hx with hx | hx
      · have := (mem_lows.1 hx).2; omega
      · obtain ⟨_, rfl⟩ := mem_own.1 hx
        exact h2
theorem find_range {key : Int} {l : List (Int × Int)} (ok : Ok l) : -1 ≤ find key l ∧ find key l ≤ 996 := by
  by_cases h : ∃ r ∈ l, r.1 = key
  · obtain ⟨r, hr, e⟩ := h
    rw [find_mem key l ok.2 r hr e]
    have := ok.1 r hr; omega
  · rw [find_none key l fun r hr e => h ⟨r, hr, e⟩]; omega
theorem find_put_same {key val : Int} {l : List (Int × Int)} (ok : Ok l) (h0 : 0 ≤ key) (h1 : key ≤ 99) (v0 : -1 ≤ val) (v1 : val ≤ 996) : find key (put key val l) = val := by
  by_cases hv : val = -1
  · rw [hv]
    refine find_none _ _ fun r hr e => ?_
    rcases mem_put.1 hr with ⟨_, h⟩ | ⟨h, _⟩
    · exact h e
    · exact h rfl
  · exact find_mem key _ (put_ok ok h0 h1 v0 v1).2 (key, val) (mem_put.2 (Or.inr ⟨hv, rfl⟩)) rfl
theorem find_put_other {key val k : Int} {l : List (Int × Int)} (ok : Ok l) (h0 : 0 ≤ key) (h1 : key ≤ 99) (v0 : -1 ≤ val) (v1 : val ≤ 996) (hk : k ≠ key) : find k (put key val l) = find k l := by
  by_cases h : ∃ r ∈ l, r.1 = k
  · obtain ⟨r, hr, e⟩ := h
    rw [find_mem k l ok.2 r hr e]
    exact find_mem k _ (put_ok ok h0 h1 v0 v1).2 r (mem_put.2 (Or.inl ⟨hr, by omega⟩)) e
  · rw [find_none k l fun r hr e => h ⟨r, hr, e⟩]
    refine find_none _ _ fun r hr e => ?_
    rcases mem_put.1 hr with ⟨hr, _⟩ | ⟨_, rfl⟩
    · exact h ⟨r, hr, e⟩
    · exact hk e.symm
theorem ext (a b : List (Int × Int)) (ha : Ok a) (hb : Ok b) (h : ∀ k, find k a = find k b) : a = b := by
  induction a generalizing b with
  | nil =>
    cases b with
    | nil => rfl
    | cons r t =>
      have h1 := h r.1
      rw [find, find, if_pos rfl] at h1
      have := hb.1 r (by simp); omega
  | cons q s ih =>
    cases b with
    | nil =>
      have h1 := h q.1
      rw [find, find, if_pos rfl] at h1
      have := ha.1 q (by simp); omega
    | cons r t =>
      have hq := ha.1 q (by simp)
      have hr := hb.1 r (by simp)
      have e1 : q.1 = r.1 := by
        rcases Int.lt_trichotomy q.1 r.1 with hlt | he | hgt
        · have h1 := h q.1
          rw [find, if_pos rfl, find_none q.1 (r :: t)] at h1
          · omega
          · intro x hx
            rcases List.mem_cons.1 hx with rfl | hx
            · omega
            · have := hb.head x hx; omega
        · exact he
        · have h1 := h r.1
          rw [find_none r.1 (q :: s), find, if_pos rfl] at h1
          · omega
          · intro x hx
            rcases List.mem_cons.1 hx with rfl | hx
            · omega
            · have := ha.head x hx; omega
      have e2 : q.2 = r.2 := by
        have h1 := h q.1
        rw [find, if_pos rfl, find, if_pos e1.symm] at h1
        exact h1
      have e : q = r := Prod.ext e1 e2
      subst e
      rw [ih t ha.tail hb.tail fun k => ?_]
      by_cases hk : q.1 = k
      · subst hk
        rw [find_none q.1 s fun x hx => by have := ha.head x hx; omega, find_none q.1 t fun x hx => by have := hb.head x hx; omega]
      · have h1 := h k
        rwa [find, if_neg hk, find, if_neg hk] at h1
end Go.Proofs.YtcgpgflnihjpiagGreat.M

/- Table. -/
namespace Go.Proofs.YtcgpgflnihjpiagGreat
open Go.RowKit
theorem zeroTable : ∃ Z : Array Value, Z.size = 100 ∧ ∀ W, (zeroValue 170).run Tryz.prog W = .ok (.agg Z) W := ⟨Array.replicate 100 (.int .i64 0), by simp, fun W => by kernel_rfl⟩
theorem infoTable : (Tryz.prog.info? 170).map (·.size) = some 100 := by kernel_rfl
theorem set_get (cs : Array Value) (k i : Nat) (v : Value) (hk : k < cs.size) : (cs.setIfInBounds k v)[i]? = if k = i then some v else cs[i]? := by
  rw [Array.getElem?_setIfInBounds]
  by_cases h : k = i
  · subst h; simp [hk]
  · simp [h]
set_option maxHeartbeats 4000000 in
theorem spread_any (a : Option Addr) (n cap : Nat) (l : List (Int × Int)) (w : World) (h : Rd w a n l) (hn : n ≤ 40) :
    Calls Tryz.prog 126 #[.slice a n cap] w fun e w' => ∃ cs : Array Value, e = .returned (.agg cs) ∧ cs.size = 100 ∧ (∀ i : Nat, i < 100 → cs[i]? = some (.int .i64 (M.find i l))) ∧ Below w.heap.size w w' := by
  obtain ⟨Z, hZ, hz⟩ := zeroTable
  have HR : Aside (Rd w a n l) := h
  clear h
  go_enter Tryz.func126, Tryz.ntmps126
  go_wp2_with fail
  go_loopg [4] 100 (fun g i wr => ∃ (k : Nat) (cs : Array Value), k + g = 100 ∧ i = .int .i64 k ∧ Aside (cs.size = 100) ∧ Aside (wr.heap[w.heap.size]? = some (.cells Z 170 (0, 0))) ∧ Aside (wr.heap[w.heap.size + 1]? = some (.cells cs 170 (0, 0))) ∧ Aside (∀ j : Nat, j < k → cs[j]? = some (.int .i64 (M.find j l))) ∧ Below w.heap.size w wr)
  case atStart => exact ⟨0, Z, by omega, rfl, hZ, heap_alloc2_old w _ _, heap_alloc2_new w _ _, fun j hj => by omega, ((Below.refl _ _).alloc (Nat.le_refl _) _).alloc (by simp) _⟩
  case round =>
    obtain ⟨k, cs, hk, rfl, HSz, H0, H1, HF, hb⟩ := hrel
    by_cases hlt : k < 100
    · have hc : wr.cell? ⟨w.heap.size + 1, k, none⟩ = cs[k]? := cell_of_row wr _ k cs _ _ H1.out
      obtain ⟨u, hu⟩ : ∃ u, cs[k]? = some u := ⟨_, Array.getElem?_eq_getElem (by rw [HSz.out]; exact hlt)⟩
      rw [hu] at hc
      have hf : wr.frozen? ⟨w.heap.size + 1, k, none⟩ = false := frozen_of_row wr _ k cs _ H1.out
      clear hu
      obtain ⟨x, hx⟩ : ∃ x, x = M.find k l := ⟨_, rfl⟩
      have HX : Aside (x = M.find k l) := hx
      have HV : Aside (Calls Tryz.prog 150 #[.slice a n cap, .int .i64 k] wr fun e w' => e = .returned (.int .i64 x) ∧ w' = wr) := by rw [hx]; exact value_any a n cap l k wr (HR.out.below hb (Nat.le_refl _)) hn
      clear hx
      go_wp2_with fail
      refine HV.out.mono ?_
      rintro e w1 ⟨rfl, hw⟩
      subst hw
      have H0' : Aside ((w1.setCell ⟨w.heap.size + 1, k, none⟩ (.int .i64 x)).heap[w.heap.size]? = some (.cells Z 170 (0, 0))) := (heap_setCell_other w1 _ _ _ (by simp)).trans H0.out
      have H1' : Aside ((w1.setCell ⟨w.heap.size + 1, k, none⟩ (.int .i64 x)).heap[w.heap.size + 1]? = some (.cells (cs.setIfInBounds k (.int .i64 x)) 170 (0, 0))) := heap_setCell_same w1 _ k cs _ _ H1.out
      have HF' : Aside (∀ j : Nat, j < k + 1 → (cs.setIfInBounds k (.int .i64 x))[j]? = some (.int .i64 (M.find j l))) := fun j hj => by
        rw [set_get cs k j _ (by rw [HSz.out]; exact hlt)]
        by_cases e : k = j
        · subst e; rw [if_pos rfl, HX.out]
        · rw [if_neg e]; exact HF.out j (by omega)
      have hb' := hb.setCell (p := ⟨w.heap.size + 1, k, none⟩) (by simp) (.int .i64 x)
      clear HV
      go_wp2
      go_roundg (gk - 1)
      case measure => omega
      case rel => exact ⟨k + 1, cs.setIfInBounds k (.int .i64 x), by omega, by go_num, by simpa [Aside] using HSz.out, H0', H1', HF', hb'⟩
    · have HF' : Aside (∀ j : Nat, j < 100 → cs[j]? = some (.int .i64 (M.find j l))) := fun j hj => HF.out j (by omega)
      have hone : Aside (cs.all (·.oneCell') = true) := by
        refine Array.all_eq_true_iff_forall_mem.2 fun v hv => ?_
        obtain ⟨j, hj, e⟩ := Array.mem_iff_getElem.1 hv
        have h2 := HF'.out j (by rw [← HSz.out]; exact hj)
        rw [Array.getElem?_eq_getElem hj, e] at h2
        cases h2
        rfl
      go_wp2_with (first | (refine wpList_load_row rfl 170 _ rfl (w.heap.size + 1) rfl 170 cs _ _ H1.out Tryz.underlying170 rfl (by rw [HSz.out]; exact infoTable) ?_) | (refine wpList_store_row rfl 170 _ _ rfl w.heap.size cs rfl rfl 170 Z H0.out (by rw [HSz.out]; exact infoTable) (by rw [HSz.out]; exact hZ) hone.out ?_))
      exact bodyPost_ret (v := .agg cs) (results_cell_row Tryz.results126 _ _ w.heap.size 170 cs (0, 0) _ rfl (setRow_heap wr _ Z cs _ _ H0.out) Tryz.underlying170 rfl (by rw [HSz.out]; exact infoTable)) rfl ⟨cs, rfl, HSz.out, HF'.out, below_setRow hb (Nat.le_refl _) cs⟩
namespace M
def foldTo (f : Nat → Int) : Nat → List (Int × Int)
  | 0 => []
  | k + 1 => if f k = -1 then foldTo f k else foldTo f k ++ [((k : Int), f k)]
theorem foldTo_len (f : Nat → Int) (k : Nat) : (foldTo f k).length ≤ k := by
  induction k with
  | zero => simp [foldTo]
  | succ k ih => rw [foldTo]; split
                 · omega
                 · simp; omega
theorem mem_foldTo (f : Nat → Int) (k : Nat) (r : Int × Int) : r ∈ foldTo f k ↔ ∃ i, i < k ∧ f i ≠ -1 ∧ r = ((i : Int), f i) := by
  induction k with
  | zero => simp [foldTo]
  | succ k ih =>
    rw [foldTo]
    split
    · rename_i h
      rw [ih]
      constructor
      · rintro ⟨i, h1, h2, h3⟩; exact ⟨i, by omega, h2, h3⟩
      · rintro ⟨i, h1, h2, h3⟩
        by_cases e : i = k
        · subst e; exact absurd h h2
        · exact ⟨i, by omega, h2, h3⟩
    · rename_i h
      rw [List.mem_append, ih]
      constructor
      · rintro (⟨i, h1, h2, h3⟩ | h1)
        · exact ⟨i, by omega, h2, h3⟩
        · exact ⟨k, by omega, h, by simpa using h1⟩
      · rintro ⟨i, h1, h2, h3⟩
        by_cases e : i = k
        · subst e; exact Or.inr (by simp [h3])
        · exact Or.inl ⟨i, by omega, h2, h3⟩
theorem foldTo_pair (f : Nat → Int) (k : Nat) : (foldTo f k).Pairwise (fun a b => a.1 < b.1) := by
  induction k with
  | zero => simp [foldTo]
  | succ k ih =>
    rw [foldTo]
    split
    · exact ih
    · rw [List.pairwise_append]
      refine ⟨ih, by simp, fun x hx y hy => ?_⟩
      obtain ⟨i, h1, _, rfl⟩ := (mem_foldTo f k x).1 hx
      have : y = ((k : Int), f k) := by simpa using hy
      subst this
      show (i : Int) < (k : Int)
      omega
end M
set_option maxHeartbeats 4000000 in
theorem folded_any (cs : Array Value) (f : Nat → Int) (w : World) (hf : ∀ i : Nat, i < 100 → cs[i]? = some (.int .i64 (f i))) :
    Calls Tryz.prog 127 #[.agg cs] w fun e w' => ∃ v, e = .returned v ∧ Own w' (w.heap.size + 1) v (M.foldTo f 100) ∧ Below w.heap.size w w' := by
  obtain ⟨Wb, hWb⟩ : ∃ Wb, Wb = w.alloc (.cells cs 170) := ⟨_, rfl⟩
  have bb : Below w.heap.size w Wb := by rw [hWb]; exact (Below.refl _ _).alloc (Nat.le_refl _) _
  have hbs : Wb.heap.size = w.heap.size + 1 := by rw [hWb]; simp
  have hrow : Wb.heap[w.heap.size]? = some (.cells cs 170 (0, 0)) := by rw [hWb]; exact heap_alloc_new w _
  have HW : Hid (Wb = w.alloc (.cells cs 170)) := hWb
  have HCells : Aside (∀ W, Below Wb.heap.size Wb W → ∀ i : Nat, i < 100 → W.cell? ⟨w.heap.size, i, none⟩ = some (.int .i64 (f i))) := fun W hW i hi => by
    rw [hW.cell (p := ⟨w.heap.size, i, none⟩) (by show w.heap.size < _; omega), cell_of_row Wb _ i cs _ _ hrow]
    exact hf i hi
  have HBs : Aside (Wb.heap.size = w.heap.size + 1) := hbs
  clear hWb hrow hf hbs
  go_enter Tryz.func127, Tryz.ntmps127
  go_wp2_with fail
  rw [← HW.out]
  go_loopg [3, 4] 100 (fun g v i wr => ∃ k : Nat, k + g = 100 ∧ i = .int .i64 k ∧ Aside (Own wr (w.heap.size + 1) v (M.foldTo f k)) ∧ Below Wb.heap.size Wb wr)
  case atStart => exact ⟨0, by omega, rfl, World.ownsRow_nil _ _ _ _, Below.refl _ _⟩
  case round =>
    obtain ⟨k, hk, rfl, HO, hb⟩ := hrel
    have hsz2 := hb.size
    by_cases hlt : k < 100
    · have hc := HCells.out wr hb k hlt
      obtain ⟨x, hx⟩ : ∃ x, x = f k := ⟨_, rfl⟩
      rw [← hx] at hc
      have HX : Aside (x = f k) := hx
      clear hx
      by_cases hx1 : x = -1
      · have hxb : (x != -1) = false := by simp [hx1]
        have HO' : Aside (Own wr (w.heap.size + 1) u3 (M.foldTo f (k + 1))) := by unfold Aside; rw [M.foldTo, if_pos (by rw [← HX.out]; exact hx1)]; exact HO.out
        clear hx1
        go_wp2
        go_roundg (gk - 1)
        case measure => omega
        case rel => exact ⟨k + 1, by omega, by go_num, HO', hb⟩
      · have hxb : (x != -1) = true := by simp [hx1]
        have EX : Aside (M.foldTo f (k + 1) = M.foldTo f k ++ [((k : Int), x)]) := by unfold Aside; rw [M.foldTo, if_neg (by rw [← HX.out]; exact hx1), HX.out]
        have HO1 : Aside (Own (wr.alloc (.cells #[.int .i64 (k : Int), .int .i64 x] 56)) (w.heap.size + 1) u3 (M.foldTo f k)) := World.ownsRow.alloc HO.out _
        have HR : Aside (Rd (wr.alloc (.cells #[.int .i64 (k : Int), .int .i64 x] 56)) (some ⟨wr.heap.size, 0, none⟩) 1 [((k : Int), x)]) := one_rd wr _ _
        have HL : Aside ((M.foldTo f k).length + 1 ≤ 1000000) := by have := M.foldTo_len f k; unfold Aside; omega
        clear hx1
        go_wp2_with (at_builtin; refine append_rd rfl _ _ rfl (w.heap.size + 1) _ (M.foldTo f k) rfl HO1.out (some ⟨wr.heap.size, 0, none⟩) 1 1 _ rfl HR.out (by simp) HL.out (by have := HBs.out; simp; omega) ?_)
        intro v' w' ho' hb3
        have HO' : Aside (Own w' (w.heap.size + 1) v' (M.foldTo f (k + 1))) := by unfold Aside; rw [EX.out]; exact ho'
        have hb4 : Below Wb.heap.size Wb w' := (hb.alloc hb.size _).trans (hb3.mono (by rw [HBs.out]; omega))
        clear ho' hb3 HO1 HR
        go_wp2
        go_roundg (gk - 1)
        case measure => omega
        case rel => exact ⟨k + 1, by omega, by go_num, HO', hb4⟩
    · obtain rfl : k = 100 := by omega
      go_wp2
      go_ret
      exact ⟨_, rfl, HO.out, bb.trans (hb.mono (by rw [HBs.out]; omega))⟩
end Go.Proofs.YtcgpgflnihjpiagGreat
namespace Go.Proofs.YtcgpgflnihjpiagGreat
namespace M
theorem sel_rise (p : Nat → Bool) (n : Nat) : (sel p n).Pairwise (· < ·) := by
  induction n with
  | zero => simp [sel]
  | succ n ih =>
    rw [sel]
    split
    · rw [List.pairwise_append]
      refine ⟨ih, by simp, fun x hx y hy => ?_⟩
      obtain ⟨k, hk, _, rfl⟩ := (mem_sel p n x).1 hx
      have : y = (n : Int) := by simpa using hy
      omega
    · exact ih
end M
open Go.RowKit Go.Maps
def RH (v : Value) : Option (DataW Value × List MemPlace) := some (.held v, [])
theorem klawM : Keyed Tryz.prog 3 := int_keyed Tryz.underlying3
def upd (f : Int → Option Value) (x : Int) (v : Value) : Int → Option Value := fun y => if y = x then some v else f y
theorem upd_same (f : Int → Option Value) (x : Int) (v : Value) : upd f x v x = some v := by simp [upd]
theorem upd_other (f : Int → Option Value) (x y : Int) (v : Value) (h : y ≠ x) : upd f x v y = f y := by simp [upd, h]
def Mp (w : World) (b n : Nat) (f : Int → Option Value) : Prop :=
  ∃ D, w.ownsMap Tryz.prog 3 RH b n D ∧ (∀ x, Maps.has D (.int .i64 x) = (f x).isSome) ∧ ∀ x v, f x = some v → ∀ zd, D.atKey (.int .i64 x) zd = .held v
theorem Mp.lt {w : World} {b n : Nat} {f : Int → Option Value} (h : Mp w b n f) : b < w.heap.size := by
  obtain ⟨D, h1, _⟩ := h; exact h1.lt
theorem Mp.mono {w : World} {b n n' : Nat} {f : Int → Option Value} (h : Mp w b n f) (hn : n ≤ n') : Mp w b n' f := by
  obtain ⟨D, h1, h2⟩ := h; exact ⟨D, h1.mono hn, h2⟩
theorem Mp.below {w w' : World} {b n B : Nat} {f : Int → Option Value} (h : Mp w b n f) (hb : Below B w w') (hB : b < B) : Mp w' b n f := by
  obtain ⟨D, ⟨es, clock, h0, r⟩, h2⟩ := h
  exact ⟨D, ⟨es, clock, (hb.block b hB).trans h0, r⟩, h2⟩
theorem Mp.made (w : World) : Mp (w.alloc (.map #[] 0)) w.heap.size 0 (fun _ => none) :=
  ⟨.map [], World.ownsMap_made w _ _ _, fun x => rfl, fun x v h => by simp at h⟩
theorem keyM (x : Int) (h0 : -9223372036854775808 ≤ x) (h1 : x ≤ 9223372036854775807) : keyOf Tryz.prog 3 (.int .i64 x) = some (.int .i64 x) := keyOf_int_mk Tryz.underlying3 (WalkArith.wf_i64 (by omega))
theorem Mp.update {w : World} {b n : Nat} {f : Int → Option Value} {t e : TypeId} (h : Mp w b n f) (ht : Tryz.prog.underlying t = some (.map 3 e)) (hn : n ≤ 1000) (x : Int) (h0 : -9223372036854775808 ≤ x) (h1 : x ≤ 9223372036854775807) (v : Value) :
    ∃ w', (Instr.mapUpdate t (.map (some b)) (.int .i64 x) v).run Tryz.prog w = .ok () w' ∧ Mp w' b (n + 1) (upd f x v) ∧ w.grownBy w' (some b) := by
  obtain ⟨D, h2, h3, h4⟩ := h
  have hm := h2.isMap
  obtain ⟨w', hrun, r1, r2⟩ := h2.update klawM ht (by unfold maxLen; omega) (keyM x h0 h1) (show RH v = some (.held v, []) from rfl)
  refine ⟨w', hrun, ⟨_, r1, fun y => ?_, fun y u hy zd => ?_⟩, r2⟩
  · by_cases e : y = x
    · subst e; rw [upd_same, Maps.has_put_same hm (by simp [WideAt.IsKeyLit])]; rfl
    · rw [upd_other f x y v e, Maps.has_put_other (by simpa using e), h3]
  · by_cases e : y = x
    · subst e
      rw [upd_same] at hy
      cases hy
      exact Maps.atKey_put_same hm (by simp [WideAt.IsKeyLit]) _ _
    · rw [upd_other f x y v e] at hy
      rw [Maps.atKey_put_other (by simpa using e)]
      exact h4 y u hy zd
theorem Mp.look {w : World} {b n : Nat} {f : Int → Option Value} {t e : TypeId} (h : Mp w b n f) (ht : Tryz.prog.underlying t = some (.map 3 e)) {z : Value} (hz : (zeroValue e).run Tryz.prog w = .ok z w) (x : Int) (h0 : -9223372036854775808 ≤ x) (h1 : x ≤ 9223372036854775807) :
    (Instr.lookup t (.map (some b)) (.int .i64 x) false).run Tryz.prog w = .ok ((f x).getD z) w := by
  obtain ⟨D, h2, h3, h4⟩ := h
  obtain ⟨v, ps, hrun, hv⟩ := h2.lookup klawM ht hz (show RH z = some (.held z, []) from rfl) (keyM x h0 h1)
  rw [hrun]
  have e : DataW.held v = D.atKey (.int .i64 x) (.held z) := by
    unfold RH at hv
    simp only [Option.some.injEq, Prod.mk.injEq] at hv
    exact hv.1
  cases hf : f x with
  | none =>
    rw [Maps.atKey_of_not_has (by rw [h3, hf]; rfl)] at e
    cases e
    rfl
  | some u =>
    rw [h4 x u hf] at e
    cases e
    rfl
theorem Mp.lookOk {w : World} {b n : Nat} {f : Int → Option Value} {t e : TypeId} (h : Mp w b n f) (ht : Tryz.prog.underlying t = some (.map 3 e)) {z : Value} (hz : (zeroValue e).run Tryz.prog w = .ok z w) (x : Int) (h0 : -9223372036854775808 ≤ x) (h1 : x ≤ 9223372036854775807) :
    (Instr.lookup t (.map (some b)) (.int .i64 x) true).run Tryz.prog w = .ok (.tuple #[(f x).getD z, .bool (f x).isSome]) w := by
  obtain ⟨D, h2, h3, h4⟩ := h
  obtain ⟨v, ps, hrun, hv⟩ := h2.look_ok klawM ht hz (show RH z = some (.held z, []) from rfl) (keyM x h0 h1)
  rw [hrun, h3]
  have e : DataW.held v = D.atKey (.int .i64 x) (.held z) := by
    unfold RH at hv
    simp only [Option.some.injEq, Prod.mk.injEq] at hv
    exact hv.1
  cases hf : f x with
  | none =>
    rw [Maps.atKey_of_not_has (by rw [h3, hf]; rfl)] at e
    cases e
    rfl
  | some u =>
    rw [h4 x u hf] at e
    cases e
    rfl
theorem sorted_sel {D : DataW Value} {w : World} {b n : Nat} (hown : w.ownsMap Tryz.prog 3 RH b n D) {f : Int → Option Value} (hh : ∀ x, Maps.has D (.int .i64 x) = (f x).isSome) (m : Nat) (hd : ∀ x, (f x).isSome = true → 0 ≤ x ∧ x < (m : Int)) (ss : List Int) (hp : ss.Perm (intKeys D)) :
    ss.mergeSort (fun x y => decide (x ≤ y)) = M.sel (fun k => (f (k : Int)).isSome) m := by
  have hr := M.sel_rise (fun k => (f (k : Int)).isSome) m
  have hc : CollectedI D (fun _ => false) (M.sel (fun k => (f (k : Int)).isSome) m) := by
    refine ⟨hr.imp fun {a b} h => by omega, fun x => ?_⟩
    rw [M.mem_sel, hh]
    constructor
    · rintro ⟨k, _, h2, rfl⟩; exact ⟨h2, rfl⟩
    · rintro ⟨h1, _⟩
      have := hd x h1
      exact ⟨x.toNat, by omega, by rw [Int.toNat_of_nonneg this.1]; exact h1, by omega⟩
  have hq := hc.perm hown klawM Tryz.underlying3 (fun _ => rfl)
  rw [show (fun x y : Int => decide (x ≤ y)) = leI from rfl, mergeSort_of_perm_i (hp.trans hq.symm)]
  exact List.mergeSort_of_pairwise (hr.imp fun {a b} h => by simp [leI]; omega)
theorem size_keys {D : DataW Value} {w : World} {b n : Nat} (hown : w.ownsMap Tryz.prog 3 RH b n D) : Maps.size D ≤ n := hown.size_le
section
variable {w : World} {ops : Array Oper} {rest : List Oper} {o : Oper} {a : Act} {Q : Exit → Act → World → Prop}
theorem wp_mp_set (hg : o.guard = none) (m x v : Operand) (t e : TypeId) (hop : o.op = Op.mapUpdate t m x v) (ht : Tryz.prog.underlying t = some (.map 3 e)) (b n : Nat) (f : Int → Option Value)
    (hm : a.eval m = .map (some b)) (h : Mp w b n f) (hn : n ≤ 1000) (key : Int) (val : Value) (hx : a.eval x = .int .i64 key) (hv : a.eval v = val) (h0 : -9223372036854775808 ≤ key) (h1 : key ≤ 9223372036854775807)
    (hK : ∀ w', Mp w' b (n + 1) (upd f key val) → w.grownBy w' (some b) → wpList Tryz.prog ops Q rest (a.put o.dst undef) w') : wpList Tryz.prog ops Q (o :: rest) a w := by
  refine wpList_plain hg fun K' hK' => ?_
  obtain ⟨w', hrun, r1, r2⟩ := h.update ht hn key h0 h1 val
  unfold Oper.wp
  simp [execOp, hop, hm, hx, hv, hrun, Result.andThen]
  exact hK' _ _ (hK w' r1 r2)
theorem wp_mp_get (hg : o.guard = none) (m x : Operand) (t e : TypeId) (hop : o.op = Op.lookup t m x false) (ht : Tryz.prog.underlying t = some (.map 3 e)) (z : Value) (hz : (zeroValue e).run Tryz.prog w = .ok z w) (b n : Nat) (f : Int → Option Value)
    (hm : a.eval m = .map (some b)) (h : Mp w b n f) (key : Int) (u : Value) (hu : (f key).getD z = u) (hx : a.eval x = .int .i64 key) (h0 : -9223372036854775808 ≤ key) (h1 : key ≤ 9223372036854775807)
    (hK : wpList Tryz.prog ops Q rest (a.put o.dst u) w) : wpList Tryz.prog ops Q (o :: rest) a w := by
  refine wpList_plain hg fun K' hK' => ?_
  have hrun := h.look ht hz key h0 h1
  rw [hu] at hrun
  unfold Oper.wp
  simp [execOp, hop, hm, hx, hrun, Result.andThen]
  exact hK' _ _ hK
theorem wp_mp_ok (hg : o.guard = none) (m x : Operand) (t e : TypeId) (hop : o.op = Op.lookup t m x true) (ht : Tryz.prog.underlying t = some (.map 3 e)) (z : Value) (hz : (zeroValue e).run Tryz.prog w = .ok z w) (b n : Nat) (f : Int → Option Value)
    (hm : a.eval m = .map (some b)) (h : Mp w b n f) (key : Int) (u : Value) (y : Bool) (hu : (f key).getD z = u) (hy : (f key).isSome = y) (hx : a.eval x = .int .i64 key) (h0 : -9223372036854775808 ≤ key) (h1 : key ≤ 9223372036854775807)
    (hK : wpList Tryz.prog ops Q rest (a.put o.dst (.tuple #[u, .bool y])) w) : wpList Tryz.prog ops Q (o :: rest) a w := by
  refine wpList_plain hg fun K' hK' => ?_
  have hrun := h.lookOk ht hz key h0 h1
  rw [hu, hy] at hrun
  unfold Oper.wp
  simp [execOp, hop, hm, hx, hrun, Result.andThen]
  exact hK' _ _ hK
end
end Go.Proofs.YtcgpgflnihjpiagGreat

/- Ch0. -/
namespace Go.Proofs.YtcgpgflnihjpiagGreat.M
def cbad (ah : Int) (c : Chg) : Bool := decide (c.1 ≤ ah ∨ 99 < c.1 ∨ c.2.1 < -1 ∨ 996 < c.2.1 ∨ c.2.2 < -1 ∨ 996 < c.2.2 ∨ c.2.1 = c.2.2)
def fineF (ah : Int) : List Chg → Bool
  | [] => true
  | c :: t => !cbad ah c && fineF c.1 t
def fine (d : List Chg) : Bool := fineF (-1) d
theorem gdrop (l : List Chg) (k : Nat) (h : k < l.length) : l.drop k = l.getD k (0, 0, 0) :: l.drop (k + 1) := by
  rw [List.drop_eq_getElem_cons h]; simp [List.getD, h]
theorem gmem (l : List Chg) (k : Nat) (h : k < l.length) : l.getD k (0, 0, 0) ∈ l := by simp [List.getD, h]
theorem fineF_bad (ah : Int) (l : List Chg) (k : Nat) (h : k < l.length) (x y z : Int) (e : l.getD k (0, 0, 0) = (x, y, z)) (hb : x ≤ ah ∨ 99 < x ∨ y < -1 ∨ 996 < y ∨ z < -1 ∨ 996 < z ∨ y = z) : fineF ah (l.drop k) = false := by
  rw [gdrop l k h, e, fineF, cbad, decide_eq_true hb]; rfl
theorem fineF_good (ah : Int) (l : List Chg) (k : Nat) (h : k < l.length) (x y z : Int) (e : l.getD k (0, 0, 0) = (x, y, z)) (hb : ah < x ∧ x ≤ 99 ∧ -1 ≤ y ∧ y ≤ 996 ∧ -1 ≤ z ∧ z ≤ 996 ∧ y ≠ z) : fineF ah (l.drop k) = fineF x (l.drop (k + 1)) := by
  rw [gdrop l k h, e, fineF, cbad, decide_eq_false (by show ¬ (x ≤ ah ∨ 99 < x ∨ y < -1 ∨ 996 < y ∨ z < -1 ∨ 996 < z ∨ y = z); omega)]; rfl
theorem fineF_end (ah : Int) (l : List Chg) (k : Nat) (h : l.length ≤ k) : fineF ah (l.drop k) = true := by
  rw [List.drop_eq_nil_of_le h]; rfl
def Fine (ah : Int) (d : List Chg) : Prop := (∀ c ∈ d, ah < c.1 ∧ c.1 ≤ 99 ∧ -1 ≤ c.2.1 ∧ c.2.1 ≤ 996 ∧ -1 ≤ c.2.2 ∧ c.2.2 ≤ 996 ∧ c.2.1 ≠ c.2.2) ∧ d.Pairwise (fun a b => a.1 < b.1)
theorem fineF_iff (ah : Int) (d : List Chg) : fineF ah d = true ↔ Fine ah d := by
  unfold Fine
  induction d generalizing ah with
  | nil => simp [fineF]
  | cons c t ih =>
    rw [fineF, Bool.and_eq_true, ih]
    have hc : (!cbad ah c) = true ↔ ah < c.1 ∧ c.1 ≤ 99 ∧ -1 ≤ c.2.1 ∧ c.2.1 ≤ 996 ∧ -1 ≤ c.2.2 ∧ c.2.2 ≤ 996 ∧ c.2.1 ≠ c.2.2 := by
      unfold cbad
      rw [Bool.not_eq_true', decide_eq_false_iff_not]
      omega
    rw [hc]
    constructor
    · rintro ⟨h1, h2, h3⟩
      refine ⟨fun q hq => ?_, List.pairwise_cons.2 ⟨fun q hq => (h2 q hq).1, h3⟩⟩
      rcases List.mem_cons.1 hq with rfl | hq
      · exact h1
      · have := h2 q hq; omega
    · rintro ⟨h1, h2⟩
      have h3 := List.pairwise_cons.1 h2
      exact ⟨h1 c (by simp), fun q hq => ⟨h3.1 q hq, (h1 q (by simp [hq])).2⟩, h3.2⟩
theorem fine_iff (d : List Chg) : fine d = true ↔ Fine (-1) d := fineF_iff (-1) d
theorem Fine.len {ah : Int} {d : List Chg} (h : Fine ah d) (h0 : ah ≤ 99) : (d.length : Int) ≤ 99 - ah := by
  induction d generalizing ah with
  | nil => simp; omega
  | cons c t ih =>
    have hc := h.1 c (by simp)
    have h3 := List.pairwise_cons.1 h.2
    have := ih (ah := c.1) ⟨fun q hq => ⟨h3.1 q hq, (h.1 q (by simp [hq])).2⟩, h3.2⟩ hc.2.1
    rw [List.length_cons]
    omega
def clashF (l : List (Int × Int)) (d : List Chg) : Bool := d.any (fun c => decide (find c.1 l ≠ c.2.1))
def tab (f : Int → Int) (d : List Chg) : Int → Int := d.foldl (fun f c k => if k = c.1 then c.2.2 else f k) f
theorem tab_snoc (f : Int → Int) (d : List Chg) (c : Chg) (k : Int) : tab f (d ++ [c]) k = if k = c.1 then c.2.2 else tab f d k := by
  unfold tab; rw [List.foldl_append]; rfl
theorem tab_none (f : Int → Int) (d : List Chg) (k : Int) (h : ∀ c ∈ d, c.1 ≠ k) : tab f d k = f k := by
  induction d generalizing f with
  | nil => rfl
  | cons c t ih =>
    have e : tab f (c :: t) k = tab (fun k => if k = c.1 then c.2.2 else f k) t k := rfl
    rw [e, ih _ fun q hq => h q (by simp [hq]), if_neg (fun e => h c (by simp) e.symm)]
theorem tab_mem (f : Int → Int) (d : List Chg) (hd : d.Pairwise (fun a b => a.1 < b.1)) (c : Chg) (hc : c ∈ d) : tab f d c.1 = c.2.2 := by
  induction d generalizing f with
  | nil => simp at hc
  | cons q t ih =>
    have e : tab f (q :: t) c.1 = tab (fun k => if k = q.1 then q.2.2 else f k) t c.1 := rfl
    have h2 := List.pairwise_cons.1 hd
    rw [e]
    rcases List.mem_cons.1 hc with rfl | hc
    · rw [tab_none _ t c.1 (fun r hr => by have := h2.1 r hr; omega), if_pos rfl]
    · exact ih _ h2.2 hc
theorem tab_cases (f : Int → Int) (d : List Chg) (hd : d.Pairwise (fun a b => a.1 < b.1)) (k : Int) : (∃ c ∈ d, c.1 = k ∧ tab f d k = c.2.2) ∨ ((∀ c ∈ d, c.1 ≠ k) ∧ tab f d k = f k) := by
  by_cases h : ∃ c ∈ d, c.1 = k
  · obtain ⟨c, hc, e⟩ := h
    exact Or.inl ⟨c, hc, e, by rw [← e]; exact tab_mem f d hd c hc⟩
  · exact Or.inr ⟨fun c hc e => h ⟨c, hc, e⟩, tab_none f d k fun c hc e => h ⟨c, hc, e⟩⟩
def ofTab (f : Int → Int) : List (Int × Int) := foldTo (fun i => f (i : Int)) 100
theorem foldTo_congr (f g : Nat → Int) (n : Nat) (h : ∀ i, i < n → f i = g i) : foldTo f n = foldTo g n := by
  induction n with
  | zero => rfl
  | succ n ih => rw [foldTo, foldTo, h n (by omega), ih fun i hi => h i (by omega)]
theorem foldTo_mono (f g : Nat → Int) (n : Nat) (h : ∀ i, i < n → f i ≠ -1 → g i ≠ -1) : (foldTo f n).length ≤ (foldTo g n).length := by
  induction n with
  | zero => simp [foldTo]
  | succ n ih =>
    have i1 := ih fun i hi => h i (by omega)
    have i2 := h n (by omega)
    rw [foldTo, foldTo]
    by_cases e : f n = -1
    · rw [if_pos e]; split
      · exact i1
      · simp; omega
    · rw [if_neg e, if_neg (i2 e)]; simp; exact i1
theorem find_foldTo (f : Nat → Int) (n i : Nat) : find (i : Int) (foldTo f n) = if i < n then f i else -1 := by
  by_cases hi : i < n
  · rw [if_pos hi]
    by_cases hne : f i = -1
    · rw [hne]
      refine find_none _ _ fun r hr e => ?_
      obtain ⟨j, hj, hn, rfl⟩ := (mem_foldTo f n r).1 hr
      have : j = i := by have : (j : Int) = (i : Int) := e; omega
      subst this
      exact hn hne
    · exact find_mem _ _ (foldTo_pair f n) ((i : Int), f i) ((mem_foldTo f n _).2 ⟨i, hi, hne, rfl⟩) rfl
  · rw [if_neg hi]
    refine find_none _ _ fun r hr e => ?_
    obtain ⟨j, hj, hn, rfl⟩ := (mem_foldTo f n r).1 hr
    have : (j : Int) = (i : Int) := e
    omega
theorem ofTab_ok (f : Int → Int) (h : ∀ i : Nat, i < 100 → -1 ≤ f i ∧ f i ≤ 996) : Ok (ofTab f) := by
  refine ⟨fun r hr => ?_, foldTo_pair _ 100⟩
  obtain ⟨i, hi, hne, rfl⟩ := (mem_foldTo _ 100 r).1 hr
  have := h i hi
  refine ⟨by show 0 ≤ (i : Int); omega, by show (i : Int) ≤ 99; omega, ?_, this.2⟩
  show 0 ≤ f (i : Int)
  omega
theorem find_out {l : List (Int × Int)} (ok : Ok l) (k : Int) (h : k < 0 ∨ 99 < k) : find k l = -1 :=
  find_none k l fun r hr e => by have := ok.1 r hr; omega
theorem ofTab_self {R : List (Int × Int)} (ok : Ok R) (f : Int → Int) (hf : ∀ i : Nat, i < 100 → f i = find i R) : ofTab f = R := by
  have ok2 : Ok (ofTab f) := ofTab_ok f fun i hi => by rw [hf i hi]; exact find_range ok
  refine ext _ _ ok2 ok fun k => ?_
  by_cases hk : 0 ≤ k ∧ k ≤ 99
  · obtain ⟨i, rfl⟩ := Int.eq_ofNat_of_zero_le hk.1
    unfold ofTab
    rw [find_foldTo, if_pos (by omega), hf i (by omega)]
  · rw [find_out ok2 k (by omega), find_out ok k (by omega)]
theorem ofTab_congr (f g : Int → Int) (h : ∀ i : Nat, i < 100 → f i = g i) : ofTab f = ofTab g := foldTo_congr _ _ _ h
def patchE (l : List (Int × Int)) (d : List Chg) : Int :=
  if chk l ≠ 0 then chk l else if fine d = false then 1 else if clashF l d = true then 7 else if 40 < (ofTab (tab (fun k => find k l) d)).length then 2 else 0
def patchV (l : List (Int × Int)) (d : List Chg) : List (Int × Int) := if patchE l d = 0 then ofTab (tab (fun k => find k l) d) else []
def gone (c : Chg) : Bool := decide (c.2.2 = -1)
def t1 (f : Int → Int) (d : List Chg) : Int → Int := tab f (d.filter gone)
theorem t1_le (f : Int → Int) (d e : List Chg) (hd : d.Pairwise (fun a b => a.1 < b.1)) (he : e.Sublist d) (k : Int) (h : tab (t1 f d) (e.filter (fun c => !gone c)) k ≠ -1) : tab f d k ≠ -1 := by
  have hdg : (d.filter gone).Pairwise (fun a b => a.1 < b.1) := hd.sublist List.filter_sublist
  have heg : (e.filter (fun c => !gone c)).Pairwise (fun a b => a.1 < b.1) := (hd.sublist he).sublist List.filter_sublist
  rcases tab_cases (t1 f d) _ heg k with ⟨c, hc, e1, e2⟩ | ⟨hno, e2⟩
  · have hcm := List.mem_filter.1 hc
    have hcd : c ∈ d := he.subset hcm.1
    rw [← e1, tab_mem f d hd c hcd]
    have := hcm.2
    unfold gone at this
    simpa using this
  · rw [e2] at h
    rcases tab_cases f _ hdg k with ⟨c, hc, e1, e3⟩ | ⟨hno2, e3⟩
    · have hg := (List.mem_filter.1 hc).2
      unfold gone at hg
      unfold t1 at h
      rw [e3] at h
      simp at hg
      exact absurd hg h
    · rcases tab_cases f d hd k with ⟨c, hc, e1, e4⟩ | ⟨_, e4⟩
      · rw [e4]
        intro hn
        exact hno2 c (List.mem_filter.2 ⟨hc, by unfold gone; simpa using hn⟩) e1
      · rw [e4]; unfold t1 at h; rw [e3] at h; exact h
theorem t1_all (f : Int → Int) (d : List Chg) (hd : d.Pairwise (fun a b => a.1 < b.1)) (k : Int) : tab (t1 f d) (d.filter (fun c => !gone c)) k = tab f d k := by
  have hdg : (d.filter gone).Pairwise (fun a b => a.1 < b.1) := hd.sublist List.filter_sublist
  have heg : (d.filter (fun c => !gone c)).Pairwise (fun a b => a.1 < b.1) := hd.sublist List.filter_sublist
  rcases tab_cases f d hd k with ⟨c, hc, e1, e2⟩ | ⟨hno, e2⟩
  · rw [e2]
    cases hg : gone c with
    | true =>
      have h1 : ∀ q ∈ d.filter (fun c => !gone c), q.1 ≠ k := fun q hq e => by
        have hq2 := List.mem_filter.1 hq
        have h3 := tab_mem f d hd q hq2.1
        have h4 := tab_mem f d hd c hc
        rw [e] at h3
        rw [e1] at h4
        have h5 : q.2.2 = c.2.2 := h3.symm.trans h4
        have h6 := hq2.2
        unfold gone at h6 hg
        rw [h5] at h6
        simp at h6 hg
        exact h6 hg
      rw [tab_none _ _ k h1, ← e1]
      exact tab_mem f _ hdg c (List.mem_filter.2 ⟨hc, hg⟩)
    | false =>
      rw [← e1]
      exact tab_mem _ _ heg c (List.mem_filter.2 ⟨hc, by simp [hg]⟩)
  · rw [e2, tab_none _ _ k (fun q hq => hno q (List.mem_filter.1 hq).1)]
    unfold t1
    exact tab_none _ _ k (fun q hq => hno q (List.mem_filter.1 hq).1)
theorem filter_take (d : List Chg) (p : Chg → Bool) (k : Nat) (h : k < d.length) : (d.take (k + 1)).filter p = (d.take k).filter p ++ if p (d.getD k (0, 0, 0)) = true then [d.getD k (0, 0, 0)] else [] := by
  rw [List.take_succ_eq_append_getElem h, List.filter_append]
  have e : d.getD k (0, 0, 0) = d[k] := by simp [List.getD, h]
  rw [e]
  cases hp : p d[k] <;> simp [hp]
def mval (x y z : Int) : Int := if y = z then y else if y = x then z else y
def mclash (x y z : Int) : Bool := decide (y ≠ z ∧ y ≠ x ∧ z ≠ x)
def mtab (b l m : List (Int × Int)) (k : Int) : Int := mval (find k b) (find k l) (find k m)
def mrows (b l m : List (Int × Int)) : List (Int × Int) := ofTab (mtab b l m)
def mkeys (b l m : List (Int × Int)) : List Int := sel (fun k => mclash (find k b) (find k l) (find k m)) 100
def mergeE (b l m : List (Int × Int)) : Int :=
  if chk b ≠ 0 then chk b else if chk l ≠ 0 then chk l else if chk m ≠ 0 then chk m else if 40 < (mrows b l m).length then 2 else 0
def aloneC (b l m : List (Int × Int)) (x : Int) : Option Chg := if find x b = find x l then some (x, find x b, find x m) else none
def ckeys (b m : List (Int × Int)) : List Int := sel (fun k => decide (find k b ≠ find k m)) 100
def alone (b l m : List (Int × Int)) : List Chg := (ckeys b m).filterMap (aloneC b l m)
theorem mem_alone (b l m : List (Int × Int)) (c : Chg) : c ∈ alone b l m ↔ ∃ k : Nat, k < 100 ∧ find k b ≠ find k m ∧ find k b = find k l ∧ c = ((k : Int), find k b, find k m) := by
  unfold alone ckeys
  rw [List.mem_filterMap]
  constructor
  · rintro ⟨x, hx, hc⟩
    obtain ⟨k, h1, h2, rfl⟩ := (mem_sel _ _ _).1 hx
    unfold aloneC at hc
    split at hc
    · rename_i h3
      exact ⟨k, h1, by simpa using h2, h3, by simpa using hc.symm⟩
    · simp at hc
  · rintro ⟨k, h1, h2, h3, rfl⟩
    exact ⟨(k : Int), (mem_sel _ _ _).2 ⟨k, h1, by simpa using h2, rfl⟩, by unfold aloneC; rw [if_pos h3]⟩
theorem alone_rise (b l m : List (Int × Int)) : (alone b l m).Pairwise (fun a b => a.1 < b.1) := by
  unfold alone
  rw [List.pairwise_filterMap]
  refine (sel_rise _ 100).imp fun {x y} hxy p hp q hq => ?_
  unfold aloneC at hp hq
  split at hp <;> split at hq <;> simp at hp hq
  subst hp hq
  exact hxy
theorem alone_fine {b l m : List (Int × Int)} (hb : Ok b) (hm : Ok m) : Fine (-1) (alone b l m) := by
  refine ⟨fun c hc => ?_, alone_rise b l m⟩
  obtain ⟨k, h1, h2, h3, rfl⟩ := (mem_alone b l m c).1 hc
  have r1 := find_range (key := (k : Int)) hb
  have r2 := find_range (key := (k : Int)) hm
  exact ⟨by show -1 < (k : Int); omega, by show (k : Int) ≤ 99; omega, r1.1, r1.2, r2.1, r2.2, h2⟩
theorem alone_clash (b l m : List (Int × Int)) : clashF l (alone b l m) = false := by
  unfold clashF
  rw [List.any_eq_false]
  intro c hc
  obtain ⟨k, h1, h2, h3, rfl⟩ := (mem_alone b l m c).1 hc
  simp [h3]
theorem alone_tab (b l m : List (Int × Int)) (k : Nat) (hk : k < 100) : tab (fun x => find x l) (alone b l m) (k : Int) = mtab b l m k := by
  unfold mtab mval
  rcases tab_cases (fun x => find x l) _ (alone_rise b l m) (k : Int) with ⟨c, hc, e1, e2⟩ | ⟨hno, e2⟩
  · obtain ⟨j, h1, h2, h3, rfl⟩ := (mem_alone b l m c).1 hc
    have : (j : Int) = (k : Int) := e1
    have : j = k := by omega
    subst this
    rw [e2, if_neg (by omega), if_pos h3.symm]
  · rw [e2]
    by_cases h1 : find (k : Int) l = find (k : Int) m
    · rw [if_pos h1]
    · rw [if_neg h1]
      by_cases h2 : find (k : Int) l = find (k : Int) b
      · exact absurd rfl (hno _ ((mem_alone b l m _).2 ⟨k, hk, by omega, h2.symm, rfl⟩))
      · rw [if_neg h2]
theorem alone_patch {b l m : List (Int × Int)} (hb : chk b = 0) (hl : chk l = 0) (hm : chk m = 0) : patchE l (alone b l m) = mergeE b l m ∧ ofTab (tab (fun k => find k l) (alone b l m)) = mrows b l m := by
  have e : ofTab (tab (fun k => find k l) (alone b l m)) = mrows b l m := ofTab_congr _ _ fun i hi => alone_tab b l m i hi
  refine ⟨?_, e⟩
  unfold patchE mergeE
  rw [e, hl, hb, hm, (fine_iff _).2 (alone_fine ((chk_zero b).1 hb).2 ((chk_zero m).1 hm).2), alone_clash]
  simp
theorem ckeys_filter (b l m : List (Int × Int)) (n : Nat) : (sel (fun k => decide (find (k : Int) b ≠ find (k : Int) m)) n).filter (fun x => mclash (find x b) (find x l) (find x m)) = sel (fun k => mclash (find k b) (find k l) (find k m)) n := by
  induction n with
  | zero => rfl
  | succ n ih =>
    rw [sel, sel]
    by_cases h : find (n : Int) b ≠ find (n : Int) m
    · rw [if_pos (by simpa using h), List.filter_append, ih]
      cases hc : mclash (find (n : Int) b) (find (n : Int) l) (find (n : Int) m)
      · rw [if_neg (by simp)]; simp [hc]
      · rw [if_pos rfl]; simp [hc]
    · rw [if_neg (by simpa using h), ih, if_neg]
      unfold mclash
      simp at h ⊢
      omega
end Go.Proofs.YtcgpgflnihjpiagGreat.M
