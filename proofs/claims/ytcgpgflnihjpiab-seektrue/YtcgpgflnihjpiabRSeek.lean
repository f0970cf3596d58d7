/- The reference's SeekOf and RangeOf. -/
import Derived.Test.YtcgpgflnihjpiabRTree
import Derived.Test.YtcgpgflnihjpiabValue
import Derived.Test.YtcgpgflnihjpiabSeekF
import Derived.Test.YtcgpgflnihjpiabSeekR
namespace Go.Proofs.Ytcgpgflnihjpiab
open Go.RowKit

theorem seekOf_bad (a : Option Addr) (n cap : Nat) (T : List (List (List (Int × Int)))) (key : Int) (w : World) (hT : TvS w a n cap T) (hfl : (flat T).length ≤ 900000) (hE : treeE T = 1) :
    Calls Try.prog 23 #[.slice a n cap, .int .i64 key] w fun e w' => e = .returned (.tuple #[.int .i64 0, .int .i64 0, .int .i64 1]) ∧ Below w.heap.size w w' := by
  have HC := treeError_any a n cap T w hT hfl
  rw [hE] at HC
  have HC1 : Aside (Calls Try.prog 15 #[.slice a n cap] w fun e w' => e = .returned (.int .i64 1) ∧ Below w.heap.size w w') := HC
  clear HC hT hfl hE
  go_enter Try.func23, Try.ntmps23
  go_wp2_with fail
  refine HC1.out.mono ?_
  rintro e w1 ⟨rfl, b1⟩
  go_wp2
  go_ret3
  exact ⟨rfl, b1⟩

theorem seekOf_range (a : Option Addr) (n cap : Nat) (T : List (List (List (Int × Int)))) (key : Int) (w : World) (hT : TvS w a n cap T) (hfl : (flat T).length ≤ 900000) (hE : treeE T = 0) (hk : key < 0 ∨ 99 < key) :
    Calls Try.prog 23 #[.slice a n cap, .int .i64 key] w fun e w' => e = .returned (.tuple #[.int .i64 0, .int .i64 0, .int .i64 3]) ∧ Below w.heap.size w w' := by
  have HC := treeError_any a n cap T w hT hfl
  rw [hE] at HC
  have HC1 : Aside (Calls Try.prog 15 #[.slice a n cap] w fun e w' => e = .returned (.int .i64 0) ∧ Below w.heap.size w w') := HC
  clear HC hT hfl hE
  go_enter Try.func23, Try.ntmps23
  go_wp2_with fail
  refine HC1.out.mono ?_
  rintro e w1 ⟨rfl, b1⟩
  go_wp2_with fail
  refine (isKey_no key _ hk).mono ?_
  rintro e w2 ⟨rfl, rfl⟩
  go_wp2
  go_ret3
  exact ⟨rfl, b1⟩

set_option maxHeartbeats 2000000 in
theorem seekOf_ok (a : Option Addr) (n cap : Nat) (T : List (List (List (Int × Int)))) (key : Int) (w : World) (hT : TvS w a n cap T) (hfl : (flat T).length ≤ 900000) (hE : treeE T = 0) (hk : 0 ≤ key) (hk2 : key ≤ 99) :
    Calls Try.prog 23 #[.slice a n cap, .int .i64 key] w fun e w' => e = .returned (.tuple #[.int .i64 (M.find key (flat T)), .int .i64 (looksV T key), .int .i64 0]) ∧ Below w.heap.size w w' := by
  have HC := treeError_any a n cap T w hT hfl
  rw [hE] at HC
  have HC1 : Aside (Calls Try.prog 15 #[.slice a n cap] w fun e w' => e = .returned (.int .i64 0) ∧ Below w.heap.size w w') := HC
  have HT : Aside (TvS w a n cap T) := hT
  obtain ⟨hch, hTb⟩ := treeE_ok hE
  have L2 := (build_like (flat T) hch).2.1
  rw [← hTb] at L2
  have hl40 := ((M.chk_zero _).1 hch).1
  have hn := hT.1.1
  obtain ⟨l, hl⟩ : ∃ l, l = flat T := ⟨_, rfl⟩
  obtain ⟨L, hL⟩ : ∃ L, L = l.length := ⟨_, rfl⟩
  obtain ⟨v, hv⟩ : ∃ v, v = M.find key l := ⟨_, rfl⟩
  obtain ⟨lk, hlk⟩ : ∃ lk, lk = looksV T key := ⟨_, rfl⟩
  have hL40 : L ≤ 40 := by rw [hL, hl]; exact hl40
  have HR : Aside (∀ W, Below w.heap.size w W → Calls Try.prog 16 #[.slice a n cap] W fun e w' => ∃ xa xc, e = .returned (.slice xa L xc) ∧ Aside (Sl w' xa L xc l) ∧ Below W.heap.size W w') := fun W hb => by
    refine (rowsOf_any a n cap T W (HT.out.below hb) hfl).mono ?_
    rintro e w' ⟨xa, xc, rfl, _, hs, hb2⟩
    rw [← hl, ← hL] at hs ⊢
    exact ⟨xa, xc, rfl, hs, hb2⟩
  have HV : Aside (∀ xa xc W, Sl W xa L xc l → Calls Try.prog 42 #[.slice xa L xc, .int .i64 key] W fun e w' => e = .returned (.int .i64 v) ∧ Below W.heap.size W w') := fun xa xc W hs => by
    rw [hv]
    refine (value_any xa L xc l key W hs.1 (by omega)).mono ?_
    rintro e w' ⟨rfl, rfl⟩
    exact ⟨rfl, Below.refl _ _⟩
  have hm := hT.len
  rw [← hl] at L2 ⊢
  rw [← hv, ← hlk]
  have HLK : Aside (lk = looksV T key) := hlk
  have HLe : Aside (T = [] ↔ l = []) := L2
  have HN : Aside (T.length = n) := hn
  have HLl : Aside (L = l.length) := hL
  have HFl : Aside (l = flat T) := hl
  clear HC hT hfl hE hch hTb L2 hl40 hn hl hL hv hlk
  rcases Nat.eq_zero_or_pos L with hL0 | hL0
  · subst hL0
    have HK0 : Aside (lk = 0) := by
      unfold Aside
      rw [HLK.out, looksV, if_neg (fun h => h.1 (HLe.out.2 (List.eq_nil_of_length_eq_zero HLl.out.symm)))]
    go_enter Try.func23, Try.ntmps23
    go_wp2_with fail
    refine HC1.out.mono ?_
    rintro e w1 ⟨rfl, b1⟩
    go_wp2_with fail
    refine (isKey_yes key _ hk hk2).mono ?_
    rintro e w2 ⟨rfl, rfl⟩
    go_wp2_with fail
    refine (HR.out _ b1).mono ?_
    rintro e w3 ⟨xa, xc, rfl, HS, b3⟩
    have q3 := below2 b1 b3
    go_wp2_with fail
    refine (HV.out _ _ _ HS.out).mono ?_
    rintro e w4 ⟨rfl, b4⟩
    have q4 := below2 q3 b4
    go_wp2
    go_ret3
    exact ⟨by rw [HK0.out]; rfl, q4⟩
  · obtain ⟨m, rfl⟩ : ∃ m, L = m + 1 := ⟨L - 1, by omega⟩
    obtain ⟨x, hx⟩ : ∃ x, x = M.lastK l := ⟨_, rfl⟩
    have HX : Aside (x = (l.getD m (0, 0)).1) := by unfold Aside; rw [hx, M.lastK, ← HLl.out, Nat.add_sub_cancel]
    have hmw : IntKind.i64.wrap (m : Int) = (m : Int) := by rw [IntKind.wrap_i64]; omega
    have HR2 : Aside (∀ W, Below w.heap.size w W → Calls Try.prog 16 #[.slice a n cap] W fun e w' => ∃ xb xo xc, e = .returned (.slice (some ⟨xb, xo, none⟩) (m + 1) xc) ∧ Aside (Sl w' (some ⟨xb, xo, none⟩) (m + 1) xc l) ∧ w'.cell? ⟨xb, xo + m * 2, none⟩ = some (.int .i64 x) ∧ Below W.heap.size W w') := fun W hb => by
      refine (HR.out W hb).mono ?_
      rintro e w' ⟨xa, xc, rfl, hs, hb2⟩
      rcases hs.out.1.cases with ⟨e, _⟩ | ⟨xb, xo, rfl, _, _, hxB, hxc⟩
      · omega
      · exact ⟨xb, xo, xc, rfl, hs, by rw [HX.out]; exact (hxc m (by omega)).1, hb2⟩
    clear HR
    have HLk : Aside (lk = if key ≤ x then (n : Int) else 0) := by
      unfold Aside
      rw [HLK.out, looksV, HN.out, ← HFl.out, ← hx]
      have hne : T ≠ [] := fun e => by have := HLe.out.1 e; have h2 := HLl.out; rw [this] at h2; simp at h2
      by_cases h : key ≤ x
      · rw [if_pos ⟨hne, h⟩, if_pos h]
      · rw [if_neg (fun q => h q.2), if_neg h]
    clear hx
    by_cases hkx : key ≤ x
    · have hkd : decide (key ≤ x) = true := by simp [hkx]
      have HK0 : Aside (lk = n) := by unfold Aside; rw [HLk.out, if_pos hkx]
      go_enter Try.func23, Try.ntmps23
      go_wp2_with fail
      refine HC1.out.mono ?_
      rintro e w1 ⟨rfl, b1⟩
      go_wp2_with fail
      refine (isKey_yes key _ hk hk2).mono ?_
      rintro e w2 ⟨rfl, rfl⟩
      go_wp2_with fail
      refine (HR2.out _ b1).mono ?_
      rintro e w3 ⟨xb, xo, xc, rfl, HS, hc3, b3⟩
      have q3 := below2 b1 b3
      go_wp2_with fail
      refine (HV.out _ _ _ HS.out).mono ?_
      rintro e w4 ⟨rfl, b4⟩
      have q4 := below2 q3 b4
      go_wp2
      go_ret3
      exact ⟨by rw [HK0.out]; rfl, q4⟩
    · have hkd : decide (key ≤ x) = false := by simp; omega
      have HK0 : Aside (lk = 0) := by unfold Aside; rw [HLk.out, if_neg hkx]
      go_enter Try.func23, Try.ntmps23
      go_wp2_with fail
      refine HC1.out.mono ?_
      rintro e w1 ⟨rfl, b1⟩
      go_wp2_with fail
      refine (isKey_yes key _ hk hk2).mono ?_
      rintro e w2 ⟨rfl, rfl⟩
      go_wp2_with fail
      refine (HR2.out _ b1).mono ?_
      rintro e w3 ⟨xb, xo, xc, rfl, HS, hc3, b3⟩
      have q3 := below2 b1 b3
      go_wp2_with fail
      refine (HV.out _ _ _ HS.out).mono ?_
      rintro e w4 ⟨rfl, b4⟩
      have q4 := below2 q3 b4
      go_wp2
      go_ret3
      exact ⟨by rw [HK0.out]; rfl, q4⟩

theorem seekOf_any (a : Option Addr) (n cap : Nat) (T : List (List (List (Int × Int)))) (key : Int) (w : World) (hT : TvS w a n cap T) (hfl : (flat T).length ≤ 900000) :
    Calls Try.prog 23 #[.slice a n cap, .int .i64 key] w fun e w' => e = .returned (.tuple #[.int .i64 (seekV T key), .int .i64 (seekL T key), .int .i64 (seekE T key)]) ∧ Below w.heap.size w w' := by
  rcases treeE_or T with h0 | h0
  · by_cases hr : key < 0 ∨ 99 < key
    · have e : seekE T key = 3 := by unfold seekE; rw [if_neg (by omega), if_pos hr]
      unfold seekV seekL
      rw [e]
      exact seekOf_range a n cap T key w hT hfl h0 hr
    · have e : seekE T key = 0 := by unfold seekE; rw [if_neg (by omega), if_neg hr]
      unfold seekV seekL
      rw [e]
      exact seekOf_ok a n cap T key w hT hfl h0 (by omega) (by omega)
  · have e : seekE T key = 1 := by unfold seekE; rw [if_pos (by omega), h0]
    unfold seekV seekL
    rw [e]
    exact seekOf_bad a n cap T key w hT hfl h0

theorem rangeOf_bad (a : Option Addr) (n cap : Nat) (T : List (List (List (Int × Int)))) (lo hi : Int) (w : World) (hT : TvS w a n cap T) (hfl : (flat T).length ≤ 900000) (hE : treeE T = 1) :
    Calls Try.prog 26 #[.slice a n cap, .int .i64 lo, .int .i64 hi] w fun e w' => e = .returned (.tuple #[.slice none 0 0, .int .i64 1]) ∧ Below w.heap.size w w' := by
  have HC := treeError_any a n cap T w hT hfl
  rw [hE] at HC
  have HC1 : Aside (Calls Try.prog 15 #[.slice a n cap] w fun e w' => e = .returned (.int .i64 1) ∧ Below w.heap.size w w') := HC
  clear HC hT hfl hE
  go_enter Try.func26, Try.ntmps26
  go_wp2_with fail
  refine HC1.out.mono ?_
  rintro e w1 ⟨rfl, b1⟩
  go_wp2
  go_ret2
  exact ⟨rfl, b1⟩

theorem rangeOf_range (a : Option Addr) (n cap : Nat) (T : List (List (List (Int × Int)))) (lo hi : Int) (w : World) (hT : TvS w a n cap T) (hfl : (flat T).length ≤ 900000) (hE : treeE T = 0) (hk : lo < 0 ∨ hi < lo ∨ 99 < hi) :
    Calls Try.prog 26 #[.slice a n cap, .int .i64 lo, .int .i64 hi] w fun e w' => e = .returned (.tuple #[.slice none 0 0, .int .i64 3]) ∧ Below w.heap.size w w' := by
  have HC := treeError_any a n cap T w hT hfl
  rw [hE] at HC
  have HC1 : Aside (Calls Try.prog 15 #[.slice a n cap] w fun e w' => e = .returned (.int .i64 0) ∧ Below w.heap.size w w') := HC
  clear HC hT hfl hE
  by_cases h1 : lo < 0
  · have hd1 : decide (lo < 0) = true := by simp [h1]
    go_enter Try.func26, Try.ntmps26
    go_wp2_with fail
    refine HC1.out.mono ?_
    rintro e w1 ⟨rfl, b1⟩
    go_wp2
    go_ret2
    exact ⟨rfl, b1⟩
  · have hd1 : decide (lo < 0) = false := by simp; omega
    by_cases h2 : hi < lo
    · have hd2 : decide (hi < lo) = true := by simp [h2]
      go_enter Try.func26, Try.ntmps26
      go_wp2_with fail
      refine HC1.out.mono ?_
      rintro e w1 ⟨rfl, b1⟩
      go_wp2
      go_ret2
      exact ⟨rfl, b1⟩
    · have hd2 : decide (hi < lo) = false := by simp; omega
      have hd3 : decide (99 < hi) = true := by simp; omega
      go_enter Try.func26, Try.ntmps26
      go_wp2_with fail
      refine HC1.out.mono ?_
      rintro e w1 ⟨rfl, b1⟩
      go_wp2
      go_ret2
      exact ⟨rfl, b1⟩

set_option maxRecDepth 100000 in
set_option maxHeartbeats 4000000 in
theorem rangeOf_ok (a : Option Addr) (n cap : Nat) (T : List (List (List (Int × Int)))) (lo hi : Int) (w : World) (hT : TvS w a n cap T) (hfl : (flat T).length ≤ 900000) (hE : treeE T = 0) (h1 : 0 ≤ lo) (h2 : lo ≤ hi) (h3 : hi ≤ 99) :
    Calls Try.prog 26 #[.slice a n cap, .int .i64 lo, .int .i64 hi] w fun e w' => ∃ v, e = .returned (.tuple #[v, .int .i64 0]) ∧ Own w' w.heap.size v (M.filt lo hi (flat T)) ∧ Below w.heap.size w w' := by
  have HC := treeError_any a n cap T w hT hfl
  rw [hE] at HC
  have HC1 : Aside (Calls Try.prog 15 #[.slice a n cap] w fun e w' => e = .returned (.int .i64 0) ∧ Below w.heap.size w w') := HC
  have HT : Aside (TvS w a n cap T) := hT
  have hl40 := ((M.chk_zero _).1 (treeE_ok hE).1).1
  obtain ⟨l, hl⟩ : ∃ l, l = flat T := ⟨_, rfl⟩
  obtain ⟨L, hL⟩ : ∃ L, L = l.length := ⟨_, rfl⟩
  have hL40 : L ≤ 40 := by rw [hL, hl]; exact hl40
  have HR : Aside (∀ W, Below w.heap.size w W → Calls Try.prog 16 #[.slice a n cap] W fun e w' => ∃ xa xc, e = .returned (.slice xa L xc) ∧ Aside (Sl w' xa L xc l) ∧ Below W.heap.size W w') := fun W hb => by
    refine (rowsOf_any a n cap T W (HT.out.below hb) hfl).mono ?_
    rintro e w' ⟨xa, xc, rfl, _, hs, hb2⟩
    rw [← hl, ← hL] at hs ⊢
    exact ⟨xa, xc, rfl, hs, hb2⟩
  rw [← hl]
  have HLl : Aside (L = l.length) := hL
  have hd1 : decide (lo < 0) = false := by simp; omega
  have hd2 : decide (hi < lo) = false := by simp; omega
  have hd3 : decide (99 < hi) = false := by simp; omega
  clear HC hT hfl hE hl40 hl hL
  go_enter Try.func26, Try.ntmps26
  go_wp2_with fail
  refine HC1.out.mono ?_
  rintro e w1 ⟨rfl, b1⟩
  go_wp2_with fail
  refine (HR.out _ b1).mono ?_
  rintro e w3 ⟨xa, xc, rfl, HS, b3⟩
  have q3 := below2 b1 b3
  go_wp2
  go_loopg [10, 11] L (fun g v ix wr => ∃ i : Nat, i + g = L ∧ ix = .int .i64 i ∧ Aside (Own wr w3.heap.size v (M.filt lo hi (l.take i))) ∧ Below w3.heap.size w3 wr)
  case atStart => exact ⟨0, by omega, rfl, World.ownsRow_nil _ _ _ _, Below.refl _ _⟩
  case round =>
    obtain ⟨i, hig, rfl, HO, hb3⟩ := hrel
    by_cases hlt : i < L
    · obtain ⟨xb, xo, rfl, hxB, hxc⟩ : ∃ xb xo, xa = some ⟨xb, xo, none⟩ ∧ xb < w3.heap.size ∧ ∀ i, i < L → w3.cell? ⟨xb, xo + i * 2, none⟩ = some (.int .i64 (l.getD i (0, 0)).1) ∧ w3.cell? ⟨xb, xo + i * 2 + 1, none⟩ = some (.int .i64 (l.getD i (0, 0)).2) := by
        rcases HS.out.1.cases with ⟨e, _⟩ | ⟨xb, xo, e, _, _, hxB, hxc2⟩
        · omega
        · exact ⟨xb, xo, e, hxB, hxc2⟩
      obtain ⟨kx, ky, hxy⟩ : ∃ kx ky, l.getD i (0, 0) = (kx, ky) := ⟨_, _, rfl⟩
      obtain ⟨d1, d2⟩ := hxc i hlt
      rw [hxy] at d1 d2
      have c1 : wr.cell? ⟨xb, xo + i * 2, none⟩ = some (.int .i64 kx) := (hb3.cell (p := ⟨xb, xo + i * 2, none⟩) hxB).trans d1
      have c2 : wr.cell? ⟨xb, xo + i * 2 + 1, none⟩ = some (.int .i64 ky) := (hb3.cell (p := ⟨xb, xo + i * 2 + 1, none⟩) hxB).trans d2
      have HXY : Aside (l.getD i (0, 0) = (kx, ky)) := hxy
      have hii : (i : Int) < (L : Int) := by omega
      have HAl : Aside ((M.filt lo hi (l.take i)).length + 1 ≤ 1000000) := by
        unfold Aside
        have h1 := M.filt_len lo hi (l.take i)
        rw [List.length_take] at h1
        omega
      clear d1 d2 hxy hxc
      by_cases hk : lo ≤ kx ∧ kx ≤ hi
      · have HE : Aside (M.filt lo hi (l.take (i + 1)) = M.filt lo hi (l.take i) ++ [(kx, ky)]) := M.filt_yes lo hi l i (by rw [← HLl.out]; exact hlt) kx ky HXY.out hk.1 hk.2
        go_wp2_with (first | (go_at_call 43; refine (within_yes kx lo hi _ hk.1 hk.2).mono ?_; rintro e w5 ⟨rfl, rfl⟩) | (at_builtin; refine append_rd rfl _ _ rfl w3.heap.size _ (M.filt lo hi (l.take i)) rfl (World.ownsRow.alloc HO.out _) (some ⟨w5.heap.size, 0, none⟩) 1 1 [(kx, ky)] (by simp [go_sem]) (one_rd _ _ _) (by simp) HAl.out (by have := hb3.size; simp; omega) ?_))
        intro v' w' ho' hbb
        have HO' : Aside (Own w' w3.heap.size v' (M.filt lo hi (l.take (i + 1)))) := by unfold Aside; rw [HE.out]; exact ho'
        have hb4 : Below w3.heap.size w3 w' := (hb3.alloc hb3.size _).trans hbb
        clear ho' hbb
        go_wp2
        go_roundg (gk - 1)
        case measure => omega
        case rel => exact ⟨i + 1, by omega, by go_num, HO', hb4⟩
      · have HE : Aside (M.filt lo hi (l.take (i + 1)) = M.filt lo hi (l.take i)) := M.filt_no lo hi l i (by rw [← HLl.out]; exact hlt) kx ky HXY.out (by omega)
        go_wp2_with (go_at_call 43; refine (within_no kx lo hi _ (by omega)).mono ?_; rintro e w5 ⟨rfl, rfl⟩)
        go_roundg (gk - 1)
        case measure => omega
        case rel => exact ⟨i + 1, by omega, by go_num, by unfold Aside; rw [HE.out]; exact HO.out, hb3⟩
    · obtain rfl : i = L := by omega
      have HO1 : Aside (Own wr w.heap.size u10 (M.filt lo hi l)) := by
        have h := HO.out.mono q3.size
        rwa [List.take_of_length_le (by rw [← HLl.out]; exact Nat.le_refl _)] at h
      go_wp2
      go_ret2
      exact ⟨_, rfl, HO1.out, below2 q3 hb3⟩

theorem rangeOf_any (a : Option Addr) (n cap : Nat) (T : List (List (List (Int × Int)))) (lo hi : Int) (w : World) (hT : TvS w a n cap T) (hfl : (flat T).length ≤ 900000) :
    Calls Try.prog 26 #[.slice a n cap, .int .i64 lo, .int .i64 hi] w fun e w' => ∃ v, e = .returned (.tuple #[v, .int .i64 (rangeE T lo hi)]) ∧ Own w' w.heap.size v (rangeV T lo hi) ∧ Below w.heap.size w w' := by
  unfold rangeV
  rcases treeE_or T with h0 | h0
  · by_cases hr : lo < 0 ∨ hi < lo ∨ 99 < hi
    · have e : rangeE T lo hi = 3 := by unfold rangeE; rw [if_neg (by omega), if_pos hr]
      rw [e, if_neg (by omega)]
      refine (rangeOf_range a n cap T lo hi w hT hfl h0 hr).mono ?_
      rintro e w' ⟨rfl, hb⟩
      exact ⟨_, rfl, World.ownsRow_nil _ _ _ _, hb⟩
    · have e : rangeE T lo hi = 0 := by unfold rangeE; rw [if_neg (by omega), if_neg hr]
      rw [e, if_pos rfl]
      exact rangeOf_ok a n cap T lo hi w hT hfl h0 (by omega) (by omega) (by omega)
  · have e : rangeE T lo hi = 1 := by unfold rangeE; rw [if_pos (by omega), h0]
    rw [e, if_neg (by omega)]
    refine (rangeOf_bad a n cap T lo hi w hT hfl h0).mono ?_
    rintro e w' ⟨rfl, hb⟩
    exact ⟨_, rfl, World.ownsRow_nil _ _ _ _, hb⟩
end Go.Proofs.Ytcgpgflnihjpiab
