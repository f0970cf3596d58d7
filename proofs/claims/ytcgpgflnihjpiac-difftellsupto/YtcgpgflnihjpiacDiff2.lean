/- diff.Of. -/
import Derived.Test.YtcgpgflnihjpiacDiff1
import Derived.Test.YtcgpgflnihjpiacKeys
import Derived.Test.YtcgpgflnihjpiacCh1
namespace Go.Proofs.Ytcgpgflnihjpiac
open Go.RowKit Go.Maps

/-- What the map has of two lists of rows. -/
def fm (l1 l2 : List (Int × Int)) : Int → Option Value := fun x => if (M.has l1 x || M.has l2 x) = true then some (cval (x, M.find x l1, M.find x l2)) else none
theorem fm_nil : fm [] [] = fun _ => none := by funext x; simp [fm, M.has]
theorem fm_step1 (L : List (Int × Int)) (r : Int × Int) (h : M.has L r.1 = false) : upd (fm L []) r.1 (cval (r.1, r.2, -1)) = fm (L ++ [r]) [] := by
  funext x
  by_cases e : x = r.1
  · subst e
    rw [upd_same]
    unfold fm
    rw [M.has_snoc, M.find_snoc, h]
    simp [M.find]
  · rw [upd_other _ _ _ _ e]
    have e2 : (r.1 == x) = false := by simp; exact fun h => e h.symm
    unfold fm
    rw [M.has_snoc, M.find_snoc, e2]
    cases hx : M.has L x
    · simp [M.has]
    · simp
theorem fm_step2 (l1 L : List (Int × Int)) (r : Int × Int) (h : M.has L r.1 = false) : upd (fm l1 L) r.1 (cval (r.1, M.find r.1 l1, r.2)) = fm l1 (L ++ [r]) := by
  funext x
  by_cases e : x = r.1
  · subst e
    rw [upd_same]
    unfold fm
    rw [M.has_snoc, M.find_snoc, h]
    simp
  · rw [upd_other _ _ _ _ e]
    have e2 : (r.1 == x) = false := by simp; exact fun h => e h.symm
    unfold fm
    rw [M.has_snoc, M.find_snoc, e2]
    cases hx : M.has L x
    · have e3 : M.find x L = -1 := M.find_has_no hx
      have e4 : ¬ r.1 = x := fun h => e h.symm
      rw [e3]
      simp [e4]
    · simp
theorem take_has {l : List (Int × Int)} (ok : M.Ok l) (i : Nat) (h : i < l.length) : M.has (l.take i) (l.getD i (0, 0)).1 = false := by
  rw [M.has_no]
  intro r hr e
  obtain ⟨j, hj, hjl, rfl⟩ := M.mem_take hr
  have := ok.asc j i hj h
  omega
theorem take_row (l : List (Int × Int)) (i : Nat) (h : i < l.length) : l.take (i + 1) = l.take i ++ [l.getD i (0, 0)] := by
  rw [List.take_succ_eq_append_getElem h]; simp [List.getD, h]
theorem fm_dom {l1 l2 : List (Int × Int)} (o1 : M.Ok l1) (o2 : M.Ok l2) (x : Int) (h : (fm l1 l2 x).isSome = true) : 0 ≤ x ∧ x < ((100 : Nat) : Int) := by
  unfold fm at h
  split at h
  · rename_i h2
    rw [Bool.or_eq_true] at h2
    rcases h2 with h2 | h2
    · obtain ⟨r, hr, rfl⟩ := (M.has_iff _ _).1 h2
      have := o1.1 r hr; omega
    · obtain ⟨r, hr, rfl⟩ := (M.has_iff _ _).1 h2
      have := o2.1 r hr; omega
  · simp at h
theorem fm_some (l1 l2 : List (Int × Int)) (k : Nat) (h : M.find (k : Int) l1 ≠ M.find (k : Int) l2) : (fm l1 l2 (k : Int)).isSome = true := by
  unfold fm
  cases h1 : M.has l1 (k : Int)
  · cases h2 : M.has l2 (k : Int)
    · exact absurd (by rw [M.find_has_no h1, M.find_has_no h2]) h
    · rfl
  · rfl
theorem fm_at {l1 l2 : List (Int × Int)} {x : Int} (h : (fm l1 l2 x).isSome = true) : fm l1 l2 x = some (cval (x, M.find x l1, M.find x l2)) := by
  unfold fm at h ⊢
  split
  · rfl
  · rename_i h2; rw [if_neg h2] at h; simp at h

theorem Rd.but {w w' : World} {a : Option Addr} {n B m : Nat} {l : List (Int × Int)} (h : Rd w a n l) (hk : KeepBut B m w w') (ha : ∀ b off, a = some ⟨b, off, none⟩ → 0 < n → b ≠ B ∧ b < m) : Rd w' a n l := by
  obtain ⟨h1, h2⟩ := h
  refine ⟨h1, ?_⟩
  by_cases hn : n = 0
  · exact Or.inl hn
  · rcases h2 with h2 | ⟨b, off, e, hlt, hc⟩
    · exact Or.inl h2
    · obtain ⟨hb1, hb2⟩ := ha b off e (by omega)
      refine Or.inr ⟨b, off, e, Nat.lt_of_lt_of_le hlt hk.1.size, fun i hi => ?_⟩
      rw [hk.cell (p := ⟨b, off + i * 2, none⟩) hb1 hb2, hk.cell (p := ⟨b, off + i * 2 + 1, none⟩) hb1 hb2]
      exact hc i hi
theorem Own.base {w : World} {base : Nat} {v : Value} {l : List (Int × Int)} (h : Own w base v l) : ∃ a cap, v = .slice a l.length cap ∧ Rd w a l.length l ∧ l.length ≤ cap ∧ cap ≤ maxLen ∧ ∀ b off, a = some ⟨b, off, none⟩ → base ≤ b ∧ b < w.heap.size := by
  obtain ⟨a, cap, rfl, r1, r2, r3, _⟩ := h.rd
  refine ⟨a, cap, rfl, r1, r2, r3, fun b off e => ?_⟩
  subst e
  exact World.ownsRow.lt h b rfl

theorem dof_bad1 (a1 a2 : Option Addr) (n1 n2 c1 c2 : Nat) (T : List (List (List (Int × Int)))) (w : World) (h1 : TvS w a1 n1 c1 T) (g1 : Big T) (hz : treeE T ≠ 0) :
    Calls Try.prog 19 #[.slice a1 n1 c1, .slice a2 n2 c2] w fun e w' => e = .returned (.tuple #[.slice none 0 0, .int .i64 (treeE T)]) ∧ Below w.heap.size w w' := by
  have H := tcheck_any a1 n1 c1 T w h1 g1
  obtain ⟨c, hc⟩ : ∃ c, c = treeE T := ⟨_, rfl⟩
  rw [← hc] at H hz ⊢
  have hne : (c != 0) = true := by simp [hz]
  have HH : Hid (Calls Try.prog 17 #[.slice a1 n1 c1] w fun e w' => e = .returned (.int .i64 c) ∧ Below w.heap.size w w') := H
  clear H hz hc h1
  go_enter Try.func19, Try.ntmps19
  go_wp2_with fail
  refine HH.out.mono ?_
  rintro e w1 ⟨rfl, hb1⟩
  go_wp2
  go_ret2
  exact ⟨rfl, hb1⟩
theorem dof_bad2 (a1 a2 : Option Addr) (n1 n2 c1 c2 : Nat) (T U : List (List (List (Int × Int)))) (w : World) (h1 : TvS w a1 n1 c1 T) (g1 : Big T) (h2 : TvS w a2 n2 c2 U) (g2 : Big U) (hz1 : treeE T = 0) (hz : treeE U ≠ 0) :
    Calls Try.prog 19 #[.slice a1 n1 c1, .slice a2 n2 c2] w fun e w' => e = .returned (.tuple #[.slice none 0 0, .int .i64 (treeE U)]) ∧ Below w.heap.size w w' := by
  have H := tcheck_any a1 n1 c1 T w h1 g1
  rw [hz1] at H
  have HH : Hid (Calls Try.prog 17 #[.slice a1 n1 c1] w fun e w' => e = .returned (.int .i64 0) ∧ Below w.heap.size w w') := H
  obtain ⟨c, hc⟩ : ∃ c, c = treeE U := ⟨_, rfl⟩
  have K : Hid (∀ W, Below w.heap.size w W → Calls Try.prog 17 #[.slice a2 n2 c2] W fun e w' => e = .returned (.int .i64 c) ∧ Below W.heap.size W w') := fun W hW => by rw [hc]; exact tcheck_any a2 n2 c2 U W (h2.below hW) g2
  rw [← hc] at hz ⊢
  have hne : (c != 0) = true := by simp [hz]
  clear H hz hc h1 h2
  go_enter Try.func19, Try.ntmps19
  go_wp2_with fail
  refine HH.out.mono ?_
  rintro e w1 ⟨rfl, hb1⟩
  go_wp2_with fail
  refine (K.out _ hb1).mono ?_
  rintro e w2 ⟨rfl, hb2⟩
  go_wp2
  go_ret2
  exact ⟨rfl, hb1.trans (hb2.mono hb1.size)⟩

theorem zeroChg (w : World) : (zeroValue 50).run Try.prog w = .ok (.agg #[.int .i64 0, .int .i64 0, .int .i64 0]) w := by kernel_rfl
theorem filterMap_snoc (ks : List Int) (f : Int → Option M.Chg) (i : Nat) (h : i < ks.length) : (ks.take (i + 1)).filterMap f = (ks.take i).filterMap f ++ (f (ks.getD i 0)).toList := by
  rw [List.take_succ_eq_append_getElem h, List.filterMap_append]
  have e : ks.getD i 0 = ks[i] := by simp [List.getD, h]
  rw [e]
  cases hf : f ks[i] <;> simp [hf]

set_option maxRecDepth 100000 in
set_option maxHeartbeats 32000000 in
theorem dof_good (a1 a2 : Option Addr) (n1 n2 c1 c2 : Nat) (T U : List (List (List (Int × Int)))) (w : World) (h1 : TvS w a1 n1 c1 T) (t1 : Big T) (h2 : TvS w a2 n2 c2 U) (t2 : Big U) (z1 : treeE T = 0) (z2 : treeE U = 0) :
    Calls Try.prog 19 #[.slice a1 n1 c1, .slice a2 n2 c2] w fun e w' => ∃ v, e = .returned (.tuple #[v, .int .i64 0]) ∧ OwnC w' w.heap.size v (M.dif (flat T) (flat U)) ∧ Below w.heap.size w w' := by
  have K1 : Hid (Calls Try.prog 17 #[.slice a1 n1 c1] w fun e w' => e = .returned (.int .i64 0) ∧ Below w.heap.size w w') := by have := tcheck_any a1 n1 c1 T w h1 t1; rwa [z1] at this
  have K2 : Hid (∀ W, Below w.heap.size w W → Calls Try.prog 17 #[.slice a2 n2 c2] W fun e w' => e = .returned (.int .i64 0) ∧ Below W.heap.size W w') := fun W hW => by have := tcheck_any a2 n2 c2 U W (h2.below hW) t2; rwa [z2] at this
  have g1 := gd_of z1
  have g2 := gd_of z2
  obtain ⟨L1, hL1⟩ : ∃ L1, L1 = M.apt (ground T) (ground U) := ⟨_, rfl⟩
  obtain ⟨L2, hL2⟩ : ∃ L2, L2 = M.apt (ground U) (ground T) := ⟨_, rfl⟩
  have A1 : Hid (∀ W, Below w.heap.size w W → Calls Try.prog 44 #[.slice a1 n1 c1, .slice a2 n2 c2] W fun e w' => ∃ v, e = .returned v ∧ Own w' W.heap.size v L1 ∧ Below W.heap.size W w') := fun W hW => by rw [hL1]; exact apart_any a1 a2 n1 n2 c1 c2 T U W (h1.below hW) (h2.below hW) g1 g2
  have A2 : Hid (∀ W, Below w.heap.size w W → Calls Try.prog 44 #[.slice a2 n2 c2, .slice a1 n1 c1] W fun e w' => ∃ v, e = .returned v ∧ Own w' W.heap.size v L2 ∧ Below W.heap.size W w') := fun W hW => by rw [hL2]; exact apart_any a2 a1 n2 n1 c2 c1 U T W (h2.below hW) (h1.below hW) g2 g1
  have O1 : Aside (M.Ok L1) := by rw [hL1]; exact M.apt_ok g1.1
  have O2 : Aside (M.Ok L2) := by rw [hL2]; exact M.apt_ok g2.1
  have l1 : L1.length ≤ 40 := by rw [hL1]; exact Nat.le_trans (M.apt_len _ _) g1.2.1
  have l2 : L2.length ≤ 40 := by rw [hL2]; exact Nat.le_trans (M.apt_len _ _) g2.2.1
  have HD : Hid ((M.sel (fun k => (fm L1 L2 (k : Int)).isSome) 100).filterMap (M.tellC L1 L2) = M.dif (flat T) (flat U)) := by
    unfold Hid M.dif
    refine M.sel_tell _ 100 (fun k => ?_) (fun k hk => fm_some L1 L2 k hk)
    have := M.apt_find g1.1 g2.1 (k : Int)
    rw [← hL1, ← hL2] at this
    exact this
  obtain ⟨DD, hDD⟩ : ∃ DD, DD = M.dif (flat T) (flat U) := ⟨_, rfl⟩
  rw [← hDD] at HD ⊢
  have hmm := @run_makeMap Try.prog
  clear h1 h2 z1 z2 g1 g2 hL1 hL2 t1 t2 hDD
  go_enter Try.func19, Try.ntmps19
  go_wp2_with fail
  refine K1.out.mono ?_
  rintro e w1 ⟨rfl, hb1⟩
  go_wp2_with fail
  refine (K2.out _ hb1).mono ?_
  rintro e w2 ⟨rfl, hb2⟩
  have q2 := hb1.trans (hb2.mono hb1.size)
  obtain ⟨W3, hW3⟩ : ∃ W3, W3 = w2.alloc (.map #[] 0) := ⟨_, rfl⟩
  obtain ⟨B, hB⟩ : ∃ B, B = w2.heap.size := ⟨_, rfl⟩
  have b3 : Below w2.heap.size w2 W3 := by rw [hW3]; exact (Below.refl _ _).alloc (Nat.le_refl _) _
  have q3 : Below w.heap.size w W3 := q2.trans (b3.mono q2.size)
  have HM3 : Aside (Mp W3 B 0 (fm (L1.take 0) [])) := by rw [hW3, hB, List.take_zero, fm_nil]; exact Mp.made w2
  have hBs : W3.heap.size = B + 1 := by rw [hW3, hB]; simp
  have hwB : w.heap.size ≤ B := by rw [hB]; exact q2.size
  have HW3 : Hid (W3 = w2.alloc (.map #[] 0)) := hW3
  have HBe : Hid (B = w2.heap.size) := hB
  clear hW3 hB hb1 hb2 K1 K2 q2 b3
  go_wp2_with fail
  rw [← HW3.out, ← HBe.out]
  refine (A1.out _ q3).mono ?_
  rintro e w4 ⟨v1, rfl, ho1, hb4⟩
  obtain ⟨xa, xc, rfl, rx, _, _, hxb⟩ := ho1.base
  have HM4 : Aside (Mp w4 B 0 (fm (L1.take 0) [])) := HM3.out.below hb4 (by omega)
  have HX : Aside (Rd w4 xa L1.length L1) := rx
  have HXb : Aside (∀ b off, xa = some ⟨b, off, none⟩ → b ≠ B ∧ b < w4.heap.size) := fun b off e => by have := hxb b off e; exact ⟨by omega, this.2⟩
  have q4 : Below w.heap.size w w4 := q3.trans (hb4.mono q3.size)
  obtain ⟨xn, hxn⟩ : ∃ xn, xn = L1.length := ⟨_, rfl⟩
  rw [← hxn] at HX ⊢
  have HXn : Aside (xn = L1.length) := hxn
  have hxn40 : xn ≤ 40 := by rw [hxn]; exact l1
  have hs4 : B < w4.heap.size := HM4.out.lt
  clear ho1 rx hxb hb4 HM3 A1 q3 hxn hBs
  go_wp2
  go_loopg [34] xn (fun g ix wr => ∃ (i c : Nat), i + g = xn ∧ ix = .int .i64 i ∧ c ≤ i ∧ Aside (Mp wr B c (fm (L1.take i) [])) ∧ KeepBut B w4.heap.size w4 wr)
  case atStart => exact ⟨0, 0, by omega, rfl, Nat.le_refl _, HM4, KeepBut.refl _ _ _⟩
  case round =>
    obtain ⟨i, c, hig, rfl, hci, HM, hkb⟩ := hrel
    have hq : Below w.heap.size w wr := q4.trans (hkb.1.mono hwB)
    by_cases hlt : i < xn
    · have hii : (i : Int) < (xn : Int) := by omega
      have rx := HX.out.but hkb (fun b off e _ => HXb.out b off e)
      obtain ⟨xb, xo, rfl, _, _, hxB, hxc⟩ := rx.cases.resolve_left (fun h => by omega)
      obtain ⟨ky, vy, hkv⟩ : ∃ ky vy, L1.getD i (0, 0) = (ky, vy) := ⟨_, _, rfl⟩
      obtain ⟨k1, k2⟩ := hxc i hlt
      rw [hkv] at k1 k2
      have hiL : i < L1.length := by rw [← HXn.out]; exact hlt
      have hrr := O1.out.1 _ (M.getD_mem L1 i hiL)
      rw [hkv] at hrr
      have hk0 : 0 ≤ ky := hrr.1
      have hk1 : ky ≤ 99 := hrr.2.1
      have hth := take_has O1.out i hiL
      rw [hkv] at hth
      have HSt : Aside (upd (fm (L1.take i) []) ky (cval (ky, vy, -1)) = fm (L1.take (i + 1)) []) := by unfold Aside; rw [take_row L1 i hiL, hkv]; exact fm_step1 (L1.take i) (ky, vy) hth
      obtain ⟨Wa, hWa⟩ : ∃ Wa, Wa = wr.alloc (.cells #[.int .i64 ky, .int .i64 vy] 56) := ⟨_, rfl⟩
      have HMa : Aside (Mp Wa B c (fm (L1.take i) [])) := by rw [hWa]; exact HM.out.alloc _
      have hka : KeepBut B w4.heap.size w4 Wa := hkb.trans (keep_below (by rw [hWa]; exact (Below.refl _ _).alloc (Nat.le_refl _) _) (by have := HM.out.lt; omega) hkb.1.size)
      have p0 : Wa.cell? ⟨wr.heap.size, 0, none⟩ = some (.int .i64 ky) := by rw [hWa]; simp [go_sem]
      have p1 : Wa.cell? ⟨wr.heap.size, 1, none⟩ = some (.int .i64 vy) := by rw [hWa]; simp [go_sem]
      have HWa : Hid (Wa = wr.alloc (.cells #[.int .i64 ky, .int .i64 vy] 56)) := hWa
      clear hxc rx hkv hrr hth hWa hiL
      go_wp2_with (at_mapUpdate; rw [← HWa.out]; refine wp_mp_set rfl _ _ _ 68 50 rfl Try.underlying68 B c (fm (L1.take i) []) rfl HMa.out (by omega) ky (cval (ky, vy, -1)) rfl rfl (by omega) (by omega) ?_)
      intro w5 hmp hgr
      have HM5 : Aside (Mp w5 B (c + 1) (fm (L1.take (i + 1)) [])) := by unfold Aside; rw [← HSt.out]; exact hmp
      have hk5 : KeepBut B w4.heap.size w4 w5 := hka.trans ⟨(Below.refl _ _).grown hgr (by have := HMa.out.lt; omega) (fun q hq => by cases hq; exact Nat.le_refl _), fun q h1 h2 => hgr.block q (by have := hka.1.size; omega) (by simp; omega)⟩
      clear hmp hgr
      go_wp2
      go_roundg (gk - 1)
      case measure => omega
      case rel => exact ⟨i + 1, c + 1, by omega, by go_num, by omega, HM5, hk5⟩
    · have e1 : L1.take i = L1 := List.take_of_length_le (by rw [← HXn.out]; omega)
      have HM5 : Aside (Mp wr B c (fm L1 (L2.take 0))) := by have h := HM.out; rw [e1] at h; exact h
      have hc40 : c ≤ 40 := by omega
      obtain ⟨w5, hw5⟩ : ∃ w5, w5 = wr := ⟨_, rfl⟩
      rw [← hw5] at HM5 hq
      have HW5 : Hid (w5 = wr) := hw5
      have hB5 := HM5.out.lt
      clear e1 HM hkb hw5 HM4 HX HXb hs4 q4
      go_wp2_with fail
      rw [← HW5.out]
      refine (A2.out w5 hq).mono ?_
      rintro e w6 ⟨v2, rfl, ho2, hb6⟩
      obtain ⟨ya, yc, rfl, ry, _, _, hyb⟩ := ho2.base
      have HM6 : Aside (Mp w6 B c (fm L1 (L2.take 0))) := HM5.out.below hb6 hB5
      have HYr : Aside (Rd w6 ya L2.length L2) := ry
      have HYb : Aside (∀ b off, ya = some ⟨b, off, none⟩ → b ≠ B ∧ b < w6.heap.size) := fun b off e => by have := hyb b off e; exact ⟨by omega, this.2⟩
      have q6 : Below w.heap.size w w6 := hq.trans (hb6.mono hq.size)
      obtain ⟨yn, hyn⟩ : ∃ yn, yn = L2.length := ⟨_, rfl⟩
      rw [← hyn] at HYr ⊢
      have HYn : Aside (yn = L2.length) := hyn
      have hyn40 : yn ≤ 40 := by rw [hyn]; exact l2
      clear ho2 ry hyb hb6 HM5 A2 hq hyn HW5 hB5
      go_wp2
      go_loopg [51] yn (fun g ix ws => ∃ (j d : Nat), j + g = yn ∧ ix = .int .i64 j ∧ d ≤ 40 + j ∧ Aside (Mp ws B d (fm L1 (L2.take j))) ∧ KeepBut B w6.heap.size w6 ws)
      case atStart => exact ⟨0, c, by omega, rfl, by omega, HM6, KeepBut.refl _ _ _⟩
      case round =>
        obtain ⟨j, d, hjg, rfl, hdj, HM, hkb⟩ := hrel
        have hq : Below w.heap.size w wr := q6.trans (hkb.1.mono hwB)
        by_cases hjl : j < yn
        · have hji : (j : Int) < (yn : Int) := by omega
          have ry := HYr.out.but hkb (fun b off e _ => HYb.out b off e)
          obtain ⟨yb, yo, rfl, _, _, hyB, hyc⟩ := ry.cases.resolve_left (fun h => by omega)
          obtain ⟨ky, vy, hkv⟩ : ∃ ky vy, L2.getD j (0, 0) = (ky, vy) := ⟨_, _, rfl⟩
          obtain ⟨k1, k2⟩ := hyc j hjl
          rw [hkv] at k1 k2
          have hjL : j < L2.length := by rw [← HYn.out]; exact hjl
          have hrr := O2.out.1 _ (M.getD_mem L2 j hjL)
          rw [hkv] at hrr
          have hk0 : 0 ≤ ky := hrr.1
          have hk1 : ky ≤ 99 := hrr.2.1
          have hth := take_has O2.out j hjL
          rw [hkv] at hth
          obtain ⟨od, hod⟩ : ∃ od, od = M.find ky L1 := ⟨_, rfl⟩
          have HSt : Aside (upd (fm L1 (L2.take j)) ky (cval (ky, od, vy)) = fm L1 (L2.take (j + 1))) := by unfold Aside; rw [take_row L2 j hjL, hkv, hod]; exact fm_step2 L1 (L2.take j) (ky, vy) hth
          obtain ⟨Wa, hWa⟩ : ∃ Wa, Wa = wr.alloc (.cells #[.int .i64 ky, .int .i64 vy] 56) := ⟨_, rfl⟩
          have HMa : Aside (Mp Wa B d (fm L1 (L2.take j))) := by rw [hWa]; exact HM.out.alloc _
          have hka : KeepBut B w6.heap.size w6 Wa := hkb.trans (keep_below (by rw [hWa]; exact (Below.refl _ _).alloc (Nat.le_refl _) _) (by have := HM.out.lt; omega) hkb.1.size)
          have p0 : Wa.cell? ⟨wr.heap.size, 0, none⟩ = some (.int .i64 ky) := by rw [hWa]; simp [go_sem]
          have p1 : Wa.cell? ⟨wr.heap.size, 1, none⟩ = some (.int .i64 vy) := by rw [hWa]; simp [go_sem]
          have hWl : wr.heap.size < Wa.heap.size := by rw [hWa]; simp
          obtain ⟨Wc, hWc⟩ : ∃ Wc, Wc = Wa.alloc (.cells #[.int .i64 ky, .int .i64 od, .int .i64 vy] 50) := ⟨_, rfl⟩
          have HMc : Aside (Mp Wc B d (fm L1 (L2.take j))) := by rw [hWc]; exact HMa.out.alloc _
          have hkc : KeepBut B w6.heap.size w6 Wc := hka.trans (keep_below (by rw [hWc]; exact (Below.refl _ _).alloc (Nat.le_refl _) _) (by have := HMa.out.lt; omega) hka.1.size)
          have HWa : Hid (Wa = wr.alloc (.cells #[.int .i64 ky, .int .i64 vy] 56)) := hWa
          have HWc : Hid (Wc = Wa.alloc (.cells #[.int .i64 ky, .int .i64 od, .int .i64 vy] 50)) := hWc
          have hfx : fm L1 (L2.take j) ky = if M.has L1 ky = true then some (cval (ky, od, -1)) else none := by
            unfold fm
            rw [hth, Bool.or_false, ← hod, M.find_has_no hth]
          by_cases hin : M.has L1 ky = true
          · rw [if_pos hin] at hfx
            have HG : Aside ((fm L1 (L2.take j) ky).getD (.agg #[.int .i64 0, .int .i64 0, .int .i64 0]) = .agg #[.int .i64 ky, .int .i64 od, .int .i64 (-1)]) := by unfold Aside; rw [hfx]; rfl
            have HI : Aside ((fm L1 (L2.take j) ky).isSome = true) := by unfold Aside; rw [hfx]; rfl
            clear hyc ry hkv hrr hth hWa hWc hjL hod hfx hin
            go_wp2_with (first
              | (at_lookup; rw [← HWa.out]; refine wp_mp_ok rfl _ _ 68 50 rfl Try.underlying68 _ (zeroChg _) B d (fm L1 (L2.take j)) rfl HMa.out ky _ _ HG.out HI.out rfl (by omega) (by omega) ?_)
              | (at_mapUpdate; rw [← HWc.out]; refine wp_mp_set rfl _ _ _ 68 50 rfl Try.underlying68 B d (fm L1 (L2.take j)) rfl HMc.out (by omega) ky (cval (ky, od, vy)) rfl rfl (by omega) (by omega) ?_))
            intro w7 hmp hgr
            have HM7 : Aside (Mp w7 B (d + 1) (fm L1 (L2.take (j + 1)))) := by unfold Aside; rw [← HSt.out]; exact hmp
            have hk7 : KeepBut B w6.heap.size w6 w7 := hkc.trans ⟨(Below.refl _ _).grown hgr (by have := HMc.out.lt; omega) (fun q hq => by cases hq; exact Nat.le_refl _), fun q h1 h2 => hgr.block q (by have := hkc.1.size; omega) (by simp; omega)⟩
            clear hmp hgr
            go_wp2
            go_roundg (gk - 1)
            case measure => omega
            case rel => exact ⟨j + 1, d + 1, by omega, by go_num, by omega, HM7, hk7⟩
          · rw [if_neg hin] at hfx
            have HG : Aside ((fm L1 (L2.take j) ky).getD (.agg #[.int .i64 0, .int .i64 0, .int .i64 0]) = .agg #[.int .i64 0, .int .i64 0, .int .i64 0]) := by unfold Aside; rw [hfx]; rfl
            have HI : Aside ((fm L1 (L2.take j) ky).isSome = false) := by unfold Aside; rw [hfx]; rfl
            obtain rfl : od = -1 := by rw [hod]; exact M.find_has_no (by simpa using hin)
            clear hyc ry hkv hrr hth hWa hWc hjL hod hfx hin
            go_wp2_with (first
              | (at_lookup; rw [← HWa.out]; refine wp_mp_ok rfl _ _ 68 50 rfl Try.underlying68 _ (zeroChg _) B d (fm L1 (L2.take j)) rfl HMa.out ky _ _ HG.out HI.out rfl (by omega) (by omega) ?_)
              | (at_mapUpdate; rw [← HWc.out]; refine wp_mp_set rfl _ _ _ 68 50 rfl Try.underlying68 B d (fm L1 (L2.take j)) rfl HMc.out (by omega) ky (cval (ky, -1, vy)) rfl rfl (by omega) (by omega) ?_))
            intro w7 hmp hgr
            have HM7 : Aside (Mp w7 B (d + 1) (fm L1 (L2.take (j + 1)))) := by unfold Aside; rw [← HSt.out]; exact hmp
            have hk7 : KeepBut B w6.heap.size w6 w7 := hkc.trans ⟨(Below.refl _ _).grown hgr (by have := HMc.out.lt; omega) (fun q hq => by cases hq; exact Nat.le_refl _), fun q h1 h2 => hgr.block q (by have := hkc.1.size; omega) (by simp; omega)⟩
            clear hmp hgr
            go_wp2
            go_roundg (gk - 1)
            case measure => omega
            case rel => exact ⟨j + 1, d + 1, by omega, by go_num, by omega, HM7, hk7⟩
        · have e1 : L2.take j = L2 := List.take_of_length_le (by rw [← HYn.out]; omega)
          have HM7 : Aside (Mp wr B 100 (fm L1 L2)) := by have h := HM.out.mono (show d ≤ 100 by omega); rw [e1] at h; exact h
          obtain ⟨w7, hw7⟩ : ∃ w7, w7 = wr := ⟨_, rfl⟩
          rw [← hw7] at HM7 hq
          have HW7 : Hid (w7 = wr) := hw7
          have HS := sorted_call B 100 (fm L1 L2) w7 HM7.out (by omega) 100 (fm_dom O1.out O2.out)
          have HSS : Hid (Calls Try.prog 45 #[.func (.func 78) #[] #[.pointer (some ⟨w7.heap.size, 0, none⟩)]] (w7.alloc (.cells #[.map (some B)] 68)) fun e w' => ∃ v, e = .returned v ∧ OwnI w' w7.heap.size v (M.sel (fun k => (fm L1 L2 (k : Int)).isSome) 100) ∧ Below w7.heap.size w7 w') := HS
          have hB7 := HM7.out.lt
          clear e1 HM hkb hw7 HM6 HYr HYb q6 HS
          go_wp2_with fail
          rw [← HW7.out]
          refine (keys_call (some B) w7).mono ?_
          rintro e w8 ⟨rfl, hw8⟩
          subst hw8
          go_wp2_with fail
          refine HSS.out.mono ?_
          rintro e w9 ⟨kv, rfl, hko, hb9⟩
          obtain ⟨ks, hks⟩ : ∃ ks, ks = M.sel (fun k => (fm L1 L2 (k : Int)).isSome) 100 := ⟨_, rfl⟩
          rw [← hks] at hko
          obtain ⟨ka, kc, rfl, hri, _, _⟩ := hko.ri
          obtain ⟨ln, hln⟩ : ∃ ln, ln = ks.length := ⟨_, rfl⟩
          rw [← hln] at hri ⊢
          have hl100 : ln ≤ 100 := by rw [hln, hks]; exact M.sel_len _ 100
          have HKS : Aside (ks = M.sel (fun k => (fm L1 L2 (k : Int)).isSome) 100) := hks
          have HLN : Aside (ln = ks.length) := hln
          have HRi : Aside (Ri w9 ka ln ks) := hri
          have HM9 : Aside (Mp w9 B 100 (fm L1 L2)) := HM7.out.below hb9 hB7
          have q9 : Below w.heap.size w w9 := hq.trans (hb9.mono hq.size)
          have hB9 : B < w9.heap.size := HM9.out.lt
          clear HSS hko hri hks hln HM7 hB7 hq HW7 hb9
          go_wp2
          go_loopg [15, 79] ln (fun g v ix ws => ∃ k : Nat, k + g = ln ∧ ix = .int .i64 k ∧ Aside (OwnC ws w9.heap.size v ((ks.take k).filterMap (M.tellC L1 L2))) ∧ Below w9.heap.size w9 ws)
          case atStart => exact ⟨0, by omega, rfl, OwnC.nil _ _, Below.refl _ _⟩
          case round =>
            obtain ⟨k, hkg, rfl, HV, hbel⟩ := hrel
            have hsz := hbel.size
            by_cases hkl : k < ln
            · have hki : (k : Int) < (ln : Int) := by omega
              obtain ⟨kb, ko, rfl, hkB, hkc⟩ : ∃ kb ko, ka = some ⟨kb, ko, none⟩ ∧ kb < w9.heap.size ∧ ∀ i, i < ln → w9.cell? ⟨kb, ko + i, none⟩ = some (.int .i64 (ks.getD i 0)) := by
                rcases HRi.out.cases with ⟨h0, _⟩ | ⟨kb, ko, e, _, _, hkB, hkc⟩
                · omega
                · exact ⟨kb, ko, e, hkB, hkc⟩
              obtain ⟨s, hs, hs100, hsome⟩ : ∃ s : Nat, ks.getD k 0 = (s : Int) ∧ s < 100 ∧ (fm L1 L2 (s : Int)).isSome = true := by
                have hm : ks.getD k 0 ∈ ks := by have h := HLN.out; simp [List.getD, ← h, hkl]
                rw [HKS.out] at hm
                obtain ⟨s, h1, h2, h3⟩ := (M.mem_sel _ _ _).1 hm
                exact ⟨s, by rw [HKS.out]; exact h3, h1, h2⟩
              have ck : wr.cell? ⟨kb, ko + k, none⟩ = some (.int .i64 (s : Int)) := by rw [hbel.cell (p := ⟨kb, ko + k, none⟩) hkB, hkc k hkl, hs]
              obtain ⟨od, hod⟩ : ∃ x, x = M.find (s : Int) L1 := ⟨_, rfl⟩
              obtain ⟨nw, hnw⟩ : ∃ x, x = M.find (s : Int) L2 := ⟨_, rfl⟩
              have FM := filterMap_snoc ks (M.tellC L1 L2) k (by rw [← HLN.out]; exact hkl)
              rw [hs] at FM
              have et : M.tellC L1 L2 (s : Int) = if od ≠ nw then some ((s : Int), od, nw) else none := by unfold M.tellC; rw [← hod, ← hnw]
              rw [et] at FM
              have HG : Aside ((fm L1 L2 (s : Int)).getD (.agg #[.int .i64 0, .int .i64 0, .int .i64 0]) = .agg #[.int .i64 (s : Int), .int .i64 od, .int .i64 nw]) := by unfold Aside; rw [fm_at hsome, hod, hnw]; rfl
              have HMr : Aside (Mp wr B 100 (fm L1 L2)) := HM9.out.below hbel hB9
              have hlenV : Aside (((ks.take k).filterMap (M.tellC L1 L2)).length + 1 ≤ 1000000) := by
                have h1 : ((ks.take k).filterMap (M.tellC L1 L2)).length ≤ (ks.take k).length := List.length_filterMap_le _ _
                rw [List.length_take] at h1
                unfold Aside; omega
              obtain ⟨Wa, hWa⟩ : ∃ Wa, Wa = wr.alloc (.cells #[.int .i64 (s : Int), .int .i64 od, .int .i64 nw] 50) := ⟨_, rfl⟩
              have hba : Below wr.heap.size wr Wa := by rw [hWa]; exact (Below.refl _ _).alloc (Nat.le_refl _) _
              have hbw : Below w9.heap.size w9 Wa := hbel.trans (hba.mono hsz)
              have HVa : Aside (OwnC Wa w9.heap.size u15 ((ks.take k).filterMap (M.tellC L1 L2))) := HV.out.below hba
              by_cases hne : od = nw
              · have hb : (od != nw) = false := by simp [hne]
                rw [if_neg (by simp [hne])] at FM
                have HV2 : Aside (OwnC Wa w9.heap.size u15 ((ks.take (k + 1)).filterMap (M.tellC L1 L2))) := by unfold Aside; rw [FM]; simpa using HVa.out
                rw [hWa] at HV2 hbw
                clear hkc hs hsome hod hnw FM et hWa hba hne HV HVa
                go_wp2_with (at_lookup; refine wp_mp_get rfl _ _ 68 50 rfl Try.underlying68 _ (zeroChg _) B 100 (fm L1 L2) rfl HMr.out (s : Int) _ HG.out rfl (by omega) (by omega) ?_)
                go_roundg (gk - 1)
                case measure => omega
                case rel => exact ⟨k + 1, by omega, by go_num, HV2, hbw⟩
              · have hb : (od != nw) = true := by simp [hne]
                rw [if_pos hne] at FM
                have HFM : Aside ((ks.take (k + 1)).filterMap (M.tellC L1 L2) = (ks.take k).filterMap (M.tellC L1 L2) ++ [((s : Int), od, nw)]) := FM
                obtain ⟨Wb, hWb⟩ : ∃ Wb, Wb = Wa.alloc (.cells #[.int .i64 (s : Int), .int .i64 od, .int .i64 nw] 50) := ⟨_, rfl⟩
                have hbb : Below Wa.heap.size Wa Wb := by rw [hWb]; exact (Below.refl _ _).alloc (Nat.le_refl _) _
                have HVb : Aside (OwnC Wb w9.heap.size u15 ((ks.take k).filterMap (M.tellC L1 L2))) := HVa.out.below hbb
                have hbwb : Below w9.heap.size w9 Wb := hbw.trans (hbb.mono hbw.size)
                have HCb : Hid (∀ j, j < 1 → Wb.cell? ⟨wr.heap.size + 1, 0 + j * 3, none⟩ = some (.int .i64 (([((s : Int), od, nw)] : List M.Chg).getD j (0, 0, 0)).1) ∧ Wb.cell? ⟨wr.heap.size + 1, 0 + j * 3 + 1, none⟩ = some (.int .i64 (([((s : Int), od, nw)] : List M.Chg).getD j (0, 0, 0)).2.1) ∧ Wb.cell? ⟨wr.heap.size + 1, 0 + j * 3 + 2, none⟩ = some (.int .i64 (([((s : Int), od, nw)] : List M.Chg).getD j (0, 0, 0)).2.2)) := by rw [hWb, show wr.heap.size + 1 = Wa.heap.size by rw [hWa]; simp]; exact rc_one Wa _ _ _
                have HWb : Hid (Wb = (wr.alloc (.cells #[.int .i64 (s : Int), .int .i64 od, .int .i64 nw] 50)).alloc (.cells #[.int .i64 (s : Int), .int .i64 od, .int .i64 nw] 50)) := by rw [hWb, hWa]; exact rfl
                clear hkc hs hsome hod hnw FM et hWa hba hne HV HVa hWb hbb
                go_wp2_with (first
                  | (at_lookup; refine wp_mp_get rfl _ _ 68 50 rfl Try.underlying68 _ (zeroChg _) B 100 (fm L1 L2) rfl HMr.out (s : Int) _ HG.out rfl (by omega) (by omega) ?_)
                  | (at_builtin; rw [← HWb.out]; refine append_rc rfl _ _ rfl w9.heap.size _ ((ks.take k).filterMap (M.tellC L1 L2)) rfl HVb.out (wr.heap.size + 1) 1 1 [((s : Int), od, nw)] rfl rfl HCb.out hlenV.out (by have := hbwb.size; omega) ?_))
                intro v' wz ho' hb3 _
                have HV2 : Aside (OwnC wz w9.heap.size v' ((ks.take (k + 1)).filterMap (M.tellC L1 L2))) := by unfold Aside; rw [HFM.out]; exact ho'
                have hb4 : Below w9.heap.size w9 wz := hbwb.trans hb3
                clear ho' hb3
                go_wp2
                go_roundg (gk - 1)
                case measure => omega
                case rel => exact ⟨k + 1, by omega, by go_num, HV2, hb4⟩
            · have e1 : ks.take k = ks := List.take_of_length_le (by rw [← HLN.out]; omega)
              have HV2 : Aside (OwnC wr w9.heap.size u15 DD) := by have h := HV.out; rw [e1, HKS.out, HD.out] at h; exact h
              clear e1
              go_wp2
              go_ret2
              exact ⟨_, rfl, HV2.out.mono q9.size, q9.trans (hbel.mono q9.size)⟩
end Go.Proofs.Ytcgpgflnihjpiac
