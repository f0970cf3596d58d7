/- seek.Range. -/
import Derived.Test.YtcgpgflnihjpiabFirstUp
namespace Go.Proofs.Ytcgpgflnihjpiab
open Go.RowKit Go.Shelf

def rangeE (T : List (List (List (Int × Int)))) (lo hi : Int) : Int := if treeE T ≠ 0 then treeE T else if lo < 0 ∨ hi < lo ∨ 99 < hi then 3 else 0

theorem seekR_bad (a : Option Addr) (n cap : Nat) (T : List (List (List (Int × Int)))) (lo hi : Int) (w : World) (hT : TvS w a n cap T) (hbig : Big T) (hE : treeE T = 1) :
    Calls Try.prog 25 #[.slice a n cap, .int .i64 lo, .int .i64 hi] w fun e w' => e = .returned (.tuple #[.slice none 0 0, .int .i64 1]) ∧ Below w.heap.size w w' := by
  have HC := tcheck_any a n cap T w hT hbig
  rw [hE] at HC
  have HC1 : Aside (Calls Try.prog 18 #[.slice a n cap] w fun e w' => e = .returned (.int .i64 1) ∧ Below w.heap.size w w') := HC
  clear HC hT hbig hE
  go_enter Try.func25, Try.ntmps25
  go_wp2_with fail
  refine HC1.out.mono ?_
  rintro e w1 ⟨rfl, b1⟩
  go_wp2
  go_ret2
  exact ⟨rfl, b1⟩

theorem seekR_range (a : Option Addr) (n cap : Nat) (T : List (List (List (Int × Int)))) (lo hi : Int) (w : World) (hT : TvS w a n cap T) (hbig : Big T) (hE : treeE T = 0) (hk : lo < 0 ∨ hi < lo ∨ 99 < hi) :
    Calls Try.prog 25 #[.slice a n cap, .int .i64 lo, .int .i64 hi] w fun e w' => e = .returned (.tuple #[.slice none 0 0, .int .i64 3]) ∧ Below w.heap.size w w' := by
  have HC := tcheck_any a n cap T w hT hbig
  rw [hE] at HC
  have HC1 : Aside (Calls Try.prog 18 #[.slice a n cap] w fun e w' => e = .returned (.int .i64 0) ∧ Below w.heap.size w w') := HC
  clear HC hT hbig hE
  by_cases h1 : lo < 0
  · have hd1 : decide (lo < 0) = true := by simp [h1]
    go_enter Try.func25, Try.ntmps25
    go_wp2_with fail
    refine HC1.out.mono ?_
    rintro e w1 ⟨rfl, b1⟩
    go_wp2
    go_ret2
    exact ⟨rfl, b1⟩
  · have hd1 : decide (lo < 0) = false := by simp; omega
    by_cases h2 : hi < lo
    · have hd2 : decide (hi < lo) = true := by simp [h2]
      go_enter Try.func25, Try.ntmps25
      go_wp2_with fail
      refine HC1.out.mono ?_
      rintro e w1 ⟨rfl, b1⟩
      go_wp2
      go_ret2
      exact ⟨rfl, b1⟩
    · have hd2 : decide (hi < lo) = false := by simp; omega
      have hd3 : decide (99 < hi) = true := by simp; omega
      go_enter Try.func25, Try.ntmps25
      go_wp2_with fail
      refine HC1.out.mono ?_
      rintro e w1 ⟨rfl, b1⟩
      go_wp2
      go_ret2
      exact ⟨rfl, b1⟩

theorem seekR_none (a : Option Addr) (cap : Nat) (lo hi : Int) (w : World) (hT : TvS w a 0 cap []) (h1 : 0 ≤ lo) (h2 : lo ≤ hi) (h3 : hi ≤ 99) :
    Calls Try.prog 25 #[.slice a 0 cap, .int .i64 lo, .int .i64 hi] w fun e w' => e = .returned (.tuple #[.slice none 0 0, .int .i64 0]) ∧ Below w.heap.size w w' := by
  have HC := tcheck_any a 0 cap [] w hT (by intro c hc; simp [ground] at hc)
  rw [show treeE [] = 0 from rfl] at HC
  have HC1 : Aside (Calls Try.prog 18 #[.slice a 0 cap] w fun e w' => e = .returned (.int .i64 0) ∧ Below w.heap.size w w') := HC
  have hd1 : decide (lo < 0) = false := by simp; omega
  have hd2 : decide (hi < lo) = false := by simp; omega
  have hd3 : decide (99 < hi) = false := by simp; omega
  clear HC hT
  go_enter Try.func25, Try.ntmps25
  go_wp2_with fail
  refine HC1.out.mono ?_
  rintro e w1 ⟨rfl, b1⟩
  go_wp2
  go_ret2
  exact ⟨rfl, b1⟩

theorem stop_at (lo hi : Int) (D : List (List (Int × Int))) (hok : M.Ok D.flatten) (i : Nat) (h : i < D.length) (j : Nat) (hj : j < (D.getD i []).length) (x y : Int) (e : (D.getD i []).getD j (0, 0) = (x, y)) (hx : hi < x) :
    M.filt lo hi D.flatten = M.filt lo hi (D.take i).flatten ++ M.filt lo hi ((D.getD i []).take j) := by
  have e1 : D.flatten = (D.take i).flatten ++ (D.getD i [] ++ (D.drop (i + 1)).flatten) := by
    have e2 : D = D.take i ++ (D.getD i [] :: D.drop (i + 1)) := by
      have : D.drop i = D.getD i [] :: D.drop (i + 1) := by rw [List.drop_eq_getElem_cons h]; simp [List.getD, h]
      rw [← this, List.take_append_drop]
    conv => lhs; rw [e2]
    simp
  have hok2 : M.Ok (D.getD i [] ++ (D.drop (i + 1)).flatten) := by
    rw [e1] at hok
    exact ⟨fun r hr => hok.1 r (List.mem_append_right _ hr), (List.pairwise_append.1 hok.2).2.1⟩
  rw [e1, M.filt_append]
  congr 1
  have := M.filt_stop lo hi _ hok2 j (by rw [List.length_append]; omega) x y (by rw [← e]; generalize D.getD i [] = C at hj ⊢; simp [List.getD, List.getElem?_append_left hj]) hx
  rw [this, List.take_append_of_le_length (by omega)]
theorem ok_drop (G : List (List (Int × Int))) (k : Nat) (h : M.Ok G.flatten) : M.Ok (G.drop k).flatten := by
  have e : G.flatten = (G.take k).flatten ++ (G.drop k).flatten := by rw [← List.flatten_append, List.take_append_drop]
  rw [e] at h
  exact ⟨fun r hr => h.1 r (List.mem_append_right _ hr), (List.pairwise_append.1 h.2).2.1⟩
theorem M.flat_part (D : List (List (Int × Int))) (i : Nat) (h : i < D.length) : (D.getD i []).length ≤ D.flatten.length :=
  (List.sublist_flatten_of_mem (M.at_mem h)).length_le
theorem flatten_le (D : List (List (Int × Int))) (i : Nat) : (D.take i).flatten.length ≤ D.flatten.length := by
  have e : D.flatten = (D.take i).flatten ++ (D.drop i).flatten := by rw [← List.flatten_append, List.take_append_drop]
  rw [e, List.length_append]; omega

set_option maxRecDepth 100000 in
set_option maxHeartbeats 8000000 in
theorem seekR_some (tb to n cap : Nat) (T : List (List (List (Int × Int)))) (lo hi : Int) (w : World) (hT : TvS w (some ⟨tb, to, none⟩) n cap T) (hn : 0 < n) (hbig : Big T) (hE : treeE T = 0) (h1 : 0 ≤ lo) (h2 : lo ≤ hi) (h3 : hi ≤ 99) :
    Calls Try.prog 25 #[.slice (some ⟨tb, to, none⟩) n cap, .int .i64 lo, .int .i64 hi] w fun e w' => ∃ v, e = .returned (.tuple #[v, .int .i64 0]) ∧ Own w' w.heap.size v (M.filt lo hi (flat T)) ∧ Below w.heap.size w w' := by
  have HC := tcheck_any (some ⟨tb, to, none⟩) n cap T w hT hbig
  rw [hE] at HC
  have HC1 : Aside (Calls Try.prog 18 #[.slice (some ⟨tb, to, none⟩) n cap] w fun e w' => e = .returned (.int .i64 0) ∧ Below w.heap.size w w') := HC
  have hd1 : decide (lo < 0) = false := by simp; omega
  have hd2 : decide (hi < lo) = false := by simp; omega
  have hd3 : decide (99 < hi) = false := by simp; omega
  have hnb : ((n : Int) == 0) = false := by simp; omega
  obtain ⟨hch, hTb⟩ := treeE_ok hE
  obtain ⟨L1, L2, L3, L4, L5, L6⟩ := build_like (flat T) hch
  have LS := M.build_lasts (flat T) hch
  rw [← hTb] at L4 LS L6
  have hm : ground T ∈ T := getD_memT T [] 0 (by rw [hT.1.1]; exact hn)
  obtain ⟨y1, y2, y3⟩ := LS _ hm
  obtain ⟨y4, y5⟩ := L4 _ hm
  obtain ⟨G, hG⟩ : ∃ G, G = ground T := ⟨_, rfl⟩
  obtain ⟨b', o', e, hB, hc⟩ := hT.1.at hn
  obtain ⟨rfl, rfl⟩ : tb = b' ∧ to = o' := by simpa using e
  obtain ⟨ka, kn, kc, qk, sk⟩ := hc 0 hn
  have sk' : LvS w ka kn kc G := by rw [hG]; exact sk
  rw [← hG] at y1 y2 y3 y4 y5
  have hkn : kn ≤ 40 := by rw [← sk'.1.1]; exact y4
  have hkn0 : 0 < kn := by rw [← sk'.1.1]; exact List.length_pos_iff.2 y1
  have hn6 : n ≤ 6 := by rw [← hT.1.1]; exact L6
  obtain ⟨kb, ko, rfl⟩ : ∃ b o, ka = some ⟨b, o, none⟩ := by
    rcases sk'.1.2 with e | ⟨b', o', e, _⟩
    · omega
    · exact ⟨b', o', e⟩
  obtain ⟨hkB, hkc⟩ := sk'.1.at hkn0
  have HQk : Aside (∀ W, Below w.heap.size w W → W.cell? ⟨tb, to, none⟩ = some (.slice (some ⟨kb, ko, none⟩) kn kc)) := fun W hW => (hW.cell (p := ⟨tb, to, none⟩) hB).trans qk
  have HFU : Aside (∀ W, Below w.heap.size w W → Calls Try.prog 40 #[.slice (some ⟨kb, ko, none⟩) kn kc, .int .i64 lo] W fun e w' => ∃ k : Nat, e = .returned (.int .i64 k) ∧ Hid (M.FU G lo k) ∧ k ≤ kn ∧ Below W.heap.size W w') := fun W hW => firstUp_some kb ko kn kc G lo W (sk'.below hW).1 hkn0 (by omega) y2 y5
  obtain ⟨k, hk⟩ : ∃ k, k = M.fuK G lo := ⟨_, rfl⟩
  have HFK : Aside (∀ W, Below w.heap.size w W → Calls Try.prog 40 #[.slice (some ⟨kb, ko, none⟩) kn kc, .int .i64 lo] W fun e w' => e = .returned (.int .i64 k) ∧ Below W.heap.size W w') := fun W hW => (HFU.out W hW).mono fun e w' ⟨k', h1, h2, h3, h4⟩ => ⟨by rw [h1, hk, h2.out.eq], h4⟩
  obtain ⟨HFk, hkk⟩ : Aside (M.FU G lo k) ∧ k ≤ kn := by
    obtain ⟨k', h⟩ : ∃ k', M.FU G lo k' := M.fu_ex G lo
    have : k = k' := by rw [hk, h.eq]
    subst this
    exact ⟨h, by rw [← sk'.1.1]; exact h.1⟩
  obtain ⟨m, hm0⟩ : ∃ m, m = kn - k := ⟨_, rfl⟩
  obtain ⟨ob, HOB⟩ : ∃ ob, Aside (kc = k ∧ ob = ko ∨ kc ≠ k ∧ ob = ko + k) := by
    by_cases h : kc = k
    · exact ⟨ko, Or.inl ⟨h, rfl⟩⟩
    · exact ⟨ko + k, Or.inr ⟨h, rfl⟩⟩
  have HG : Aside (flat T = G.flatten) := by unfold Aside; rw [hG]; rfl
  have HL : Aside (G.length = kn) := sk'.1.1
  have HCell : Aside (∀ i, i < kn → ∃ a' n' c', w.cell? ⟨kb, ko + i, none⟩ = some (.slice a' n' c') ∧ Sl w a' n' c' (G.getD i [])) := hkc
  have HOk : Aside (M.Ok G.flatten) := y2
  obtain ⟨D, hD⟩ : ∃ D, D = G.drop k := ⟨_, rfl⟩
  have HDL : Aside (D.length = m) := by unfold Aside; rw [hD, List.length_drop, sk'.1.1, hm0]
  have HDO : Aside (M.Ok D.flatten) := by unfold Aside; rw [hD]; exact ok_drop G k y2
  have HDF : Aside (M.filt lo hi (flat T) = M.filt lo hi D.flatten) := by unfold Aside; rw [HG.out, HFk.out.ahead y2, hD]
  have HCD : Aside (∀ i, i < m → ∃ a' n' c', w.cell? ⟨kb, ob + i, none⟩ = some (.slice a' n' c') ∧ Sl w a' n' c' (D.getD i [])) := fun i hi => by
    obtain ⟨a', n', c', h1, h2⟩ := hkc (k + i) (by omega)
    have hob : ob = ko + k := by
      rcases HOB.out with ⟨h1, _⟩ | ⟨_, h2⟩
      · have := sk'.2.1; omega
      · exact h2
    refine ⟨a', n', c', by rw [hob, Nat.add_assoc]; exact h1, ?_⟩
    have e : D.getD i [] = G.getD (k + i) [] := by rw [hD]; simp [List.getD, List.getElem?_drop]
    rw [e]
    exact h2
  have HD40 : Aside (D.flatten.length ≤ 40) := by
    unfold Aside
    have h1 : G.flatten.length ≤ 40 := by rw [← HG.out]; exact ((M.chk_zero _).1 hch).1
    have e : G.flatten = (G.take k).flatten ++ (G.drop k).flatten := by rw [← List.flatten_append, List.take_append_drop]
    rw [e, List.length_append] at h1
    rw [hD]; omega
  have hkcm := sk'.2.2.1
  have hkcl := sk'.2.1
  unfold maxLen at hkcm
  have HM : Aside (m = kn - k) := hm0
  have hm40 : m ≤ 40 := by omega
  clear hm0
  clear HC hT hbig hE hch hTb L1 L2 L3 L4 L5 LS hm y1 y2 y3 y4 y5 hG e hc sk sk' hkc qk hk HFU hD HCell HOk HG HL HFk
  go_enter Try.func25, Try.ntmps25
  go_wp2_with fail
  refine HC1.out.mono ?_
  rintro e w1 ⟨rfl, b1⟩
  have hq1 := HQk.out w1 b1
  go_wp2_with fail
  have hki : (k : Int) ≤ (kn : Int) := by omega
  have hki2 : (k : Int) ≤ (kc : Int) := by omega
  refine wp_region_later (W0 := w1) (by kernel_rfl) (by kernel_rfl) (Below.refl _ _) ?_
  go_big_quiet_want
  go_big_quiet_op
  go_big_quiet_on
  go_big_quiet_want
  refine quiet_val (.pointer (some ⟨tb, to, none⟩)) (fun W hW => by go_simp) ?_
  go_simp
  go_big_quiet_on
  go_big_quiet_want
  refine quiet_val (.slice (some ⟨kb, ko, none⟩) kn kc) (fun W hW => by have h := HQk.out W (below2 b1 hW); go_simp) ?_
  go_simp
  go_big_quiet_on
  go_big_quiet_want
  go_big_quiet_op
  go_big_quiet_on
  go_big_quiet_want
  refine quiet_val (.pointer (some ⟨tb, to, none⟩)) (fun W hW => by go_simp) ?_
  go_simp
  go_big_quiet_on
  go_big_quiet_want
  refine quiet_val (.slice (some ⟨kb, ko, none⟩) kn kc) (fun W hW => by have h := HQk.out W (below2 b1 hW); go_simp) ?_
  go_simp
  go_big_quiet_on
  go_big_quiet_want
  go_big_quiet_op
  go_big_quiet_on
  go_big_quiet_want
  refine quiet_enter 40 #[.slice (some ⟨kb, ko, none⟩) kn kc, .int .i64 lo] (.int .i64 k) (fun W => by go_simp) (fun W hW => (HFK.out W (below2 b1 hW)).mono fun e w' ⟨h1, h2⟩ => ⟨h1, below2 hW h2⟩) ?_
  go_simp
  go_big_quiet_on
  go_big_quiet_want
  refine quiet_val (.slice (some ⟨kb, ob, none⟩) m (kc - k)) (fun W hW => by
      have hm0 := HM.out
      rcases HOB.out with ⟨h1, h2⟩ | ⟨h1, h2⟩
      · go_simp
      · go_simp) ?_
  go_simp
  go_big_quiet_on
  go_big_quiet_want
  refine quiet_val (.int .i64 m) (fun W hW => by go_simp) ?_
  go_simp
  go_big_quiet_on
  go_big_quiet_want
  go_big_quiet_op
  go_big_quiet_on
  refine wpQuiet_nil ?_
  intro w2 hL2
  have b2 := below2 b1 hL2.out
  clear hL2 hq1 b1
  go_wp2
  go_loopg [9, 43] m (fun g v ix wr => ∃ i : Nat, i + g = m ∧ ix = .int .i64 i ∧ Aside (Own wr w.heap.size v (M.filt lo hi (D.take i).flatten)) ∧ Below w.heap.size w wr)
  case atStart => exact ⟨0, by omega, rfl, World.ownsRow_nil _ _ _ _, b2⟩
  case round =>
    obtain ⟨i, hig, rfl, HO, hbel⟩ := hrel
    by_cases hlt : i < m
    · obtain ⟨a', xn, c', q1, s1⟩ := HCD.out i hlt
      obtain ⟨x, hx⟩ : ∃ x, x = D.getD i [] := ⟨_, rfl⟩
      rw [← hx] at s1
      have hxn : x.length = xn := s1.1.1
      have HX : Aside (x = D.getD i []) := hx
      have hx40 : xn ≤ 40 := by
        have h1 := M.flat_part D i (by rw [HDL.out]; exact hlt)
        rw [← hx, hxn] at h1
        have h2 := HD40.out
        omega
      have qc : wr.cell? ⟨kb, ob + i, none⟩ = some (.slice a' xn c') := (hbel.cell (p := ⟨kb, ob + i, none⟩) hkB).trans q1
      have hii : (i : Int) < (m : Int) := by omega
      have HS : Aside (Sl w a' xn c' x) := s1
      have HXL : Aside (x.length = xn) := hxn
      obtain ⟨A, hA⟩ : ∃ A, A = M.filt lo hi (D.take i).flatten := ⟨_, rfl⟩
      rw [← hA] at HO
      have HA : Aside (A = M.filt lo hi (D.take i).flatten) := hA
      have hAl : A.length ≤ 40 := by rw [hA]; exact Nat.le_trans (M.filt_len _ _ _) (Nat.le_trans (flatten_le D i) HD40.out)
      clear q1 s1 hx hxn hA
      obtain ⟨wo, hwo⟩ : ∃ wo, wo = wr := ⟨_, rfl⟩
      have HWO : Aside (wo = wr) := hwo
      clear hwo
      go_wp2
      go_loopg [9, 49] xn (fun g v jx ws => ∃ j : Nat, j + g = xn ∧ jx = .int .i64 j ∧ Aside (Own ws w.heap.size v (A ++ M.filt lo hi (x.take j))) ∧ Below w.heap.size w ws)
      case atStart => exact ⟨0, by omega, rfl, by unfold Aside; rw [show M.filt lo hi (x.take 0) = [] from rfl, List.append_nil]; exact HO.out, hbel⟩
      case round =>
        obtain ⟨j, hjg, rfl, HOj, hbj⟩ := hrel
        by_cases hjl : j < xn
        · obtain ⟨xb, xo, rfl, hxB, hxc⟩ : ∃ xb xo, a' = some ⟨xb, xo, none⟩ ∧ xb < w.heap.size ∧ ∀ i, i < xn → w.cell? ⟨xb, xo + i * 2, none⟩ = some (.int .i64 (x.getD i (0, 0)).1) ∧ w.cell? ⟨xb, xo + i * 2 + 1, none⟩ = some (.int .i64 (x.getD i (0, 0)).2) := by
            rcases HS.out.1.cases with ⟨e, _⟩ | ⟨xb, xo, e, _, _, hxB, hxc2⟩
            · omega
            · exact ⟨xb, xo, e, hxB, hxc2⟩
          obtain ⟨kx, ky, hxy⟩ : ∃ kx ky, x.getD j (0, 0) = (kx, ky) := ⟨_, _, rfl⟩
          obtain ⟨d1, d2⟩ := hxc j hjl
          rw [hxy] at d1 d2
          have c1 : wr.cell? ⟨xb, xo + j * 2, none⟩ = some (.int .i64 kx) := (hbj.cell (p := ⟨xb, xo + j * 2, none⟩) hxB).trans d1
          have c2 : wr.cell? ⟨xb, xo + j * 2 + 1, none⟩ = some (.int .i64 ky) := (hbj.cell (p := ⟨xb, xo + j * 2 + 1, none⟩) hxB).trans d2
          have HXY : Aside (x.getD j (0, 0) = (kx, ky)) := hxy
          have hji : (j : Int) < (xn : Int) := by omega
          have HAl : Aside ((A ++ M.filt lo hi (x.take j)).length + 1 ≤ 1000000) := by
            unfold Aside
            have h1 := M.filt_len lo hi (x.take j)
            rw [List.length_take, HXL.out] at h1
            rw [List.length_append]; omega
          clear d1 d2 hxy hxc
          by_cases hk1 : hi < kx
          · have hkd : decide (hi < kx) = true := by simp [hk1]
            have HEnd : Aside (A ++ M.filt lo hi (x.take j) = M.filt lo hi (flat T)) := by
              unfold Aside
              rw [HDF.out, stop_at lo hi D HDO.out i (by rw [HDL.out]; exact hlt) j (by rw [← HX.out, HXL.out]; exact hjl) kx ky (by rw [← HX.out]; exact HXY.out) hk1, ← HX.out, HA.out]
            have HO1 : Aside (Own wr w.heap.size u9 (M.filt lo hi (flat T))) := by unfold Aside; rw [← HEnd.out]; exact HOj.out
            go_wp2
            go_ret2
            exact ⟨_, rfl, World.ownsRow.alloc HO1.out _, hbj.alloc hbj.size _⟩
          · have hkd : decide (hi < kx) = false := by simp; omega
            by_cases hk2 : lo ≤ kx
            · have hkd2 : decide (lo ≤ kx) = true := by simp [hk2]
              have HE : Aside (M.filt lo hi (x.take (j + 1)) = M.filt lo hi (x.take j) ++ [(kx, ky)]) := M.filt_yes lo hi x j (by rw [HXL.out]; exact hjl) kx ky HXY.out hk2 (by omega)
              go_wp2_with (at_builtin; refine append_rd rfl _ _ rfl w.heap.size _ (A ++ M.filt lo hi (x.take j)) rfl (World.ownsRow.alloc (World.ownsRow.alloc HOj.out _) _) (some ⟨(wr.alloc (.cells #[.int .i64 kx, .int .i64 ky] 43)).heap.size, 0, none⟩) 1 1 [(kx, ky)] (by simp [go_sem]) (one_rd _ _ _) (by simp) HAl.out (by have := hbj.size; simp; omega) ?_)
              intro v' w' ho' hb3
              have HO' : Aside (Own w' w.heap.size v' (A ++ M.filt lo hi (x.take (j + 1)))) := by unfold Aside; rw [HE.out]; first | exact ho' | (rw [← List.append_assoc]; exact ho')
              have hb4 : Below w.heap.size w w' := ((hbj.alloc hbj.size _).alloc (by have := hbj.size; simp; omega) _).trans hb3
              clear ho' hb3
              go_wp2
              go_roundg (gk - 1)
              case measure => omega
              case rel => exact ⟨j + 1, by omega, by go_num, HO', hb4⟩
            · have hkd2 : decide (lo ≤ kx) = false := by simp; omega
              have HE : Aside (M.filt lo hi (x.take (j + 1)) = M.filt lo hi (x.take j)) := M.filt_no lo hi x j (by rw [HXL.out]; exact hjl) kx ky HXY.out (Or.inl (by omega))
              go_wp2
              go_roundg (gk - 1)
              case measure => omega
              case rel => exact ⟨j + 1, by omega, by go_num, by unfold Aside; rw [HE.out]; exact World.ownsRow.alloc HOj.out _, hbj.alloc hbj.size _⟩
        · obtain rfl : j = xn := by omega
          have HE : Aside (M.filt lo hi (D.take (i + 1)).flatten = A ++ M.filt lo hi x) := by
            unfold Aside
            rw [flat_take D i (by rw [HDL.out]; exact hlt), M.filt_append, ← HX.out, HA.out]
          have HO1 : Aside (Own wr w.heap.size u9 (M.filt lo hi (D.take (i + 1)).flatten)) := by
            unfold Aside
            rw [HE.out]
            have h := HOj.out
            rwa [List.take_of_length_le (by rw [HXL.out]; exact Nat.le_refl _)] at h
          go_wp2
          go_roundg (m - (i + 1))
          case measure => omega
          case rel => exact ⟨i + 1, by omega, by go_num, HO1, hbj⟩
    · obtain rfl : i = m := by omega
      have HO1 : Aside (Own wr w.heap.size u9 (M.filt lo hi (flat T))) := by
        unfold Aside
        have h := HO.out
        rw [List.take_of_length_le (by rw [HDL.out]; exact Nat.le_refl _)] at h
        rw [HDF.out]; exact h
      go_wp2
      go_ret2
      exact ⟨_, rfl, HO1.out, hbel⟩

/-- What Range tells. -/
def rangeV (T : List (List (List (Int × Int)))) (lo hi : Int) : List (Int × Int) := if rangeE T lo hi = 0 then M.filt lo hi (flat T) else []
theorem seekR_any (a : Option Addr) (n cap : Nat) (T : List (List (List (Int × Int)))) (lo hi : Int) (w : World) (hT : TvS w a n cap T) (hbig : Big T) :
    Calls Try.prog 25 #[.slice a n cap, .int .i64 lo, .int .i64 hi] w fun e w' => ∃ v, e = .returned (.tuple #[v, .int .i64 (rangeE T lo hi)]) ∧ Own w' w.heap.size v (rangeV T lo hi) ∧ Below w.heap.size w w' := by
  unfold rangeV rangeE
  rcases treeE_or T with h0 | h0
  · by_cases hr : lo < 0 ∨ hi < lo ∨ 99 < hi
    · rw [if_neg (by simp [h0]), if_pos hr, if_neg (by omega)]
      refine (seekR_range a n cap T lo hi w hT hbig h0 hr).mono ?_
      rintro e w' ⟨rfl, hb⟩
      exact ⟨_, rfl, World.ownsRow_nil _ _ _ _, hb⟩
    · rw [if_neg (by simp [h0]), if_neg hr, if_pos rfl]
      rcases Nat.eq_zero_or_pos n with rfl | hn
      · have e : T = [] := List.eq_nil_of_length_eq_zero hT.1.1
        subst e
        refine (seekR_none a cap lo hi w hT (by omega) (by omega) (by omega)).mono ?_
        rintro e w' ⟨rfl, hb⟩
        exact ⟨_, rfl, World.ownsRow_nil _ _ _ _, hb⟩
      · obtain ⟨tb, to, rfl, _⟩ := hT.1.at hn
        exact seekR_some tb to n cap T lo hi w hT hn hbig h0 (by omega) (by omega) (by omega)
  · rw [if_pos (by omega), h0, if_neg (by omega)]
    refine (seekR_bad a n cap T lo hi w hT hbig h0).mono ?_
    rintro e w' ⟨rfl, hb⟩
    exact ⟨_, rfl, World.ownsRow_nil _ _ _ _, hb⟩
end Go.Proofs.Ytcgpgflnihjpiab
