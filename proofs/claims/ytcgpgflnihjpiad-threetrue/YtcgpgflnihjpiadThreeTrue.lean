/- For every three slices of rows and every number, the law ThreeTrue returns true and leaves its arguments as they were: what only one has changed is so, with one that has changed nothing the other comes, the same keys clash the other way round, and if none does, the same comes, of what Merge of the landed three package answers. No condition. -/
import Derived.Test.YtcgpgflnihjpiadThree4
import Derived.Test.YtcgpgflnihjpiadChoose
import Derived.Test.YtcgpgflnihjpiadOpen
namespace Go.Proofs.Ytcgpgflnihjpiad
namespace M
theorem mergeE_zero {b l m : List (Int × Int)} (h : mergeE b l m = 0) : chk b = 0 ∧ chk l = 0 ∧ chk m = 0 ∧ (mrows b l m).length ≤ 40 := by
  unfold mergeE at h
  by_cases z1 : chk b = 0
  · by_cases z2 : chk l = 0
    · by_cases z3 : chk m = 0
      · refine ⟨z1, z2, z3, ?_⟩
        rw [if_neg (by omega), if_neg (by omega), if_neg (by omega)] at h
        by_cases h4 : 40 < (mrows b l m).length
        · rw [if_pos h4] at h; omega
        · omega
      · rw [if_neg (by omega), if_neg (by omega), if_pos z3] at h; omega
    · rw [if_neg (by omega), if_pos z2] at h; omega
  · rw [if_pos z1] at h; omega
theorem mrows_same {b l m R : List (Int × Int)} (hR : chk R = 0) (h : ∀ k, mtab b l m k = find k R) : mrows b l m = R := ofTab_self ((chk_zero R).1 hR).2 _ fun i _ => h i
theorem merge_to {b l m R : List (Int × Int)} (h1 : chk b = 0) (h2 : chk l = 0) (h3 : chk m = 0) (hR : chk R = 0) (h : ∀ k, mtab b l m k = find k R) (hc : ∀ k : Nat, mclash (find k b) (find k l) (find k m) = false) : mergeE b l m = 0 ∧ mergeV b l m = R ∧ mergeK b l m = [] := by
  have e1 : mrows b l m = R := mrows_same hR h
  have e0 : mergeE b l m = 0 := by
    unfold mergeE
    rw [h1, h2, h3, e1]
    have := ((chk_zero R).1 hR).1
    simp
    omega
  refine ⟨e0, by unfold mergeV; rw [if_pos e0, e1], ?_⟩
  unfold mergeK
  rw [if_pos e0]
  unfold mkeys
  rw [sel_congr _ (fun _ => false) 100 (fun k _ => hc k)]
  decide
theorem mclash_swap (x y z : Int) : mclash x y z = mclash x z y := by
  unfold mclash
  by_cases h : y ≠ z ∧ y ≠ x ∧ z ≠ x
  · rw [decide_eq_true h, decide_eq_true ⟨fun e => h.1 e.symm, h.2.2, h.2.1⟩]
  · rw [decide_eq_false h, decide_eq_false (fun k => h ⟨fun e => k.1 e.symm, k.2.2, k.2.1⟩)]
theorem mkeys_swap (b l m : List (Int × Int)) : mkeys b l m = mkeys b m l := sel_congr _ _ _ fun _ _ => mclash_swap _ _ _
theorem mval_swap (x y z : Int) (h : mclash x y z = false) : mval x y z = mval x z y := by
  unfold mclash at h
  have h := of_decide_eq_false h
  unfold mval
  (repeat' split) <;> omega
theorem sel_none (p : Nat → Bool) (n : Nat) (h : sel p n = []) (k : Nat) (hk : k < n) : p k = false := by
  by_cases e : p k = true
  · have := (mem_sel p n (k : Int)).2 ⟨k, hk, e, rfl⟩
    rw [h] at this
    simp at this
  · simpa using e
theorem mrows_swap (b l m : List (Int × Int)) (h : mkeys b l m = []) : mrows b l m = mrows b m l :=
  ofTab_congr _ _ fun i hi => mval_swap _ _ _ (sel_none _ _ h i hi)
theorem mkeys_any (b l m : List (Int × Int)) (k : Nat) (hk : k < 100) : (mkeys b l m).any (fun x => x == (k : Int)) = mclash (find k b) (find k l) (find k m) := by
  rw [Bool.eq_iff_iff, List.any_eq_true]
  constructor
  · rintro ⟨x, hx, e⟩
    obtain ⟨j, h1, h2, rfl⟩ := (mem_sel _ _ _).1 hx
    have : (j : Int) = (k : Int) := by simpa using e
    have : j = k := by omega
    subst this
    exact h2
  · intro h
    exact ⟨(k : Int), (mem_sel _ _ _).2 ⟨k, hk, h, rfl⟩, by simp⟩
theorem iany_take (l : List Int) (f : Int → Bool) (k : Nat) (h : k < l.length) : (l.take (k + 1)).any f = ((l.take k).any f || f (l.getD k 0)) := by
  rw [List.take_succ_eq_append_getElem h, List.any_append]
  simp [List.getD, h]
theorem mkeys_len (b l m : List (Int × Int)) : (mkeys b l m).length ≤ 100 := sel_len _ _
theorem mcases (x y z : Int) : (y = x ∧ z = x) ∨ (y = x ∧ z ≠ x) ∨ (y ≠ x ∧ z = x) ∨ (y ≠ x ∧ z ≠ x ∧ y = z) ∨ (y ≠ x ∧ z ≠ x ∧ y ≠ z) := by omega
theorem mrows_chk {b l m : List (Int × Int)} (h : mergeE b l m = 0) : chk (mrows b l m) = 0 := by
  obtain ⟨h1, h2, h3, h4⟩ := mergeE_zero h
  refine (chk_zero _).2 ⟨h4, ofTab_ok _ fun i _ => ?_⟩
  have r1 := find_range (key := (i : Int)) ((chk_zero b).1 h1).2
  have r2 := find_range (key := (i : Int)) ((chk_zero l).1 h2).2
  have r3 := find_range (key := (i : Int)) ((chk_zero m).1 h3).2
  unfold mtab mval
  split
  · exact r2
  · split
    · exact r3
    · exact r2
/-- What the law asks, of one key. -/
theorem mlaw (x y z : Int) : ∃ b1 b2 b3 b4 b5 : Bool, (y != x) = b1 ∧ (z != x) = b2 ∧ (y != z) = b3 ∧ (mval x y z == z) = b4 ∧ (mval x y z == y) = b5 ∧ mclash x y z = (b1 && b2 && b3) ∧ ((b1 || b4) && (b2 || b5) && (b3 || b5)) = true := by
  refine ⟨_, _, _, _, _, rfl, rfl, rfl, rfl, rfl, ?_, ?_⟩
  · unfold mclash
    by_cases h1 : y = x <;> by_cases h2 : z = x <;> by_cases h3 : y = z <;> simp [h1, h2, h3]
  · unfold mval
    by_cases h1 : y = z
    · rw [if_pos h1]; subst h1; simp
    · rw [if_neg h1]
      by_cases h2 : y = x
      · rw [if_pos h2]
        have h3 : z ≠ x := by omega
        have h4 : (y != z) = true := by simp [h1]
        have h5 : (z != x) = true := by simp [h3]
        rw [h4, h5]; simp
      · rw [if_neg h2]
        have h4 : (y != z) = true := by simp [h1]
        have h5 : (y != x) = true := by simp [h2]
        rw [h4, h5]; simp
end M
open Go.ChangeShapes Go.WideShapes Go.ChangeAt Go.RowKit

set_option maxRecDepth 100000 in
set_option maxHeartbeats 32000000 in
theorem threeTrue_walk (a1 a2 a3 : Option Addr) (n1 n2 n3 c1 c2 c3 : Nat) (b l m : List (Int × Int)) (key : Int) (w : World) (h1 : Rd w a1 n1 b) (h2 : Rd w a2 n2 l) (h3 : Rd w a3 n3 m)
    (k1 : n1 ≤ 9223372036854775807) (k2 : n2 ≤ 9223372036854775807) (k3 : n3 ≤ 9223372036854775807) (hnil1 : a1 = none → n1 = 0 ∧ c1 = 0) (hnil2 : a2 = none → n2 = 0 ∧ c2 = 0) (hnil3 : a3 = none → n3 = 0 ∧ c3 = 0)
    (q0 : -9223372036854775808 ≤ key) (q1 : key ≤ 9223372036854775807) :
    Calls Try.prog 6 #[.slice a1 n1 c1, .slice a2 n2 c2, .slice a3 n3 c3, .int .i64 key] w fun e w' => e = .returned (.bool true) ∧ Below w.heap.size w w' := by
  have H1 : Hid (Rd w a1 n1 b) := h1
  have H2 : Hid (Rd w a2 n2 l) := h2
  have H3 : Hid (Rd w a3 n3 m) := h3
  have HQ : Hid (-9223372036854775808 ≤ key ∧ key ≤ 9223372036854775807) := ⟨q0, q1⟩
  obtain ⟨R1, hR1⟩ : ∃ R, R = M.mergeV b l m := ⟨_, rfl⟩
  obtain ⟨K1, hK1⟩ : ∃ K, K = M.mergeK b l m := ⟨_, rfl⟩
  obtain ⟨E1, hE1⟩ : ∃ E, E = M.mergeE b l m := ⟨_, rfl⟩
  have HM1 : Hid (∀ W, Below w.heap.size w W → Calls Try.prog 19 #[.slice a1 n1 c1, .slice a2 n2 c2, .slice a3 n3 c3] W fun e w' => Hands3 W w' R1 K1 E1 e) := fun W hW => by
    rw [hR1, hK1, hE1]
    exact merge_any a1 a2 a3 n1 n2 n3 c1 c2 c3 b l m W (H1.out.below hW (Nat.le_refl _)) (H2.out.below hW (Nat.le_refl _)) (H3.out.below hW (Nat.le_refl _)) k1 k2 k3 hnil2
  obtain ⟨R2, hR2⟩ : ∃ R, R = M.mergeV b m l := ⟨_, rfl⟩
  obtain ⟨K2, hK2⟩ : ∃ K, K = M.mergeK b m l := ⟨_, rfl⟩
  obtain ⟨E2, hE2⟩ : ∃ E, E = M.mergeE b m l := ⟨_, rfl⟩
  have HM2 : Hid (∀ W, Below w.heap.size w W → Calls Try.prog 19 #[.slice a1 n1 c1, .slice a3 n3 c3, .slice a2 n2 c2] W fun e w' => Hands3 W w' R2 K2 E2 e) := fun W hW => by
    rw [hR2, hK2, hE2]
    exact merge_any a1 a3 a2 n1 n3 n2 c1 c3 c2 b m l W (H1.out.below hW (Nat.le_refl _)) (H3.out.below hW (Nat.le_refl _)) (H2.out.below hW (Nat.le_refl _)) k1 k3 k2 hnil3
  obtain ⟨R3, hR3⟩ : ∃ R, R = M.mergeV b l b := ⟨_, rfl⟩
  obtain ⟨K3, hK3⟩ : ∃ K, K = M.mergeK b l b := ⟨_, rfl⟩
  obtain ⟨E3, hE3⟩ : ∃ E, E = M.mergeE b l b := ⟨_, rfl⟩
  have HM3 : Hid (∀ W, Below w.heap.size w W → Calls Try.prog 19 #[.slice a1 n1 c1, .slice a2 n2 c2, .slice a1 n1 c1] W fun e w' => Hands3 W w' R3 K3 E3 e) := fun W hW => by
    rw [hR3, hK3, hE3]
    exact merge_any a1 a2 a1 n1 n2 n1 c1 c2 c1 b l b W (H1.out.below hW (Nat.le_refl _)) (H2.out.below hW (Nat.le_refl _)) (H1.out.below hW (Nat.le_refl _)) k1 k2 k1 hnil2
  obtain ⟨R4, hR4⟩ : ∃ R, R = M.mergeV b b m := ⟨_, rfl⟩
  obtain ⟨K4, hK4⟩ : ∃ K, K = M.mergeK b b m := ⟨_, rfl⟩
  obtain ⟨E4, hE4⟩ : ∃ E, E = M.mergeE b b m := ⟨_, rfl⟩
  have HM4 : Hid (∀ W, Below w.heap.size w W → Calls Try.prog 19 #[.slice a1 n1 c1, .slice a1 n1 c1, .slice a3 n3 c3] W fun e w' => Hands3 W w' R4 K4 E4 e) := fun W hW => by
    rw [hR4, hK4, hE4]
    exact merge_any a1 a1 a3 n1 n1 n3 c1 c1 c3 b b m W (H1.out.below hW (Nat.le_refl _)) (H1.out.below hW (Nat.le_refl _)) (H3.out.below hW (Nat.le_refl _)) k1 k1 k3 hnil1
  obtain ⟨R5, hR5⟩ : ∃ R, R = M.mergeV b l l := ⟨_, rfl⟩
  obtain ⟨K5, hK5⟩ : ∃ K, K = M.mergeK b l l := ⟨_, rfl⟩
  obtain ⟨E5, hE5⟩ : ∃ E, E = M.mergeE b l l := ⟨_, rfl⟩
  have HM5 : Hid (∀ W, Below w.heap.size w W → Calls Try.prog 19 #[.slice a1 n1 c1, .slice a2 n2 c2, .slice a2 n2 c2] W fun e w' => Hands3 W w' R5 K5 E5 e) := fun W hW => by
    rw [hR5, hK5, hE5]
    exact merge_any a1 a2 a2 n1 n2 n2 c1 c2 c2 b l l W (H1.out.below hW (Nat.le_refl _)) (H2.out.below hW (Nat.le_refl _)) (H2.out.below hW (Nat.le_refl _)) k1 k2 k2 hnil2
  have HDat : Hid (E1 = M.mergeE b l m ∧ E2 = M.mergeE b m l ∧ R1 = M.mergeV b l m ∧ K1 = M.mergeK b l m) := ⟨hE1, hE2, hR1, hK1⟩
  have HAll : Hid (E1 = 0 → E2 = 0 → E3 = 0 ∧ E4 = 0 ∧ E5 = 0 ∧ K3 = [] ∧ K4 = [] ∧ K5 = [] ∧ R3 = l ∧ R4 = m ∧ R5 = l ∧ K1 = K2 ∧ (K1 = [] → R1 = R2) ∧ R1 = M.mrows b l m ∧ K1 = M.mkeys b l m ∧ M.chk b = 0 ∧ M.chk l = 0 ∧ M.chk m = 0) := fun g1 g2 => by
    have g1' : M.mergeE b l m = 0 := hE1.symm.trans g1
    have g2' : M.mergeE b m l = 0 := hE2.symm.trans g2
    obtain ⟨z1, z2, z3, _⟩ := M.mergeE_zero g1'
    have r1 : R1 = M.mrows b l m := by rw [hR1]; unfold M.mergeV; rw [if_pos g1']
    have r2 : R2 = M.mrows b m l := by rw [hR2]; unfold M.mergeV; rw [if_pos g2']
    have s1 : K1 = M.mkeys b l m := by rw [hK1]; unfold M.mergeK; rw [if_pos g1']
    have s2 : K2 = M.mkeys b m l := by rw [hK2]; unfold M.mergeK; rw [if_pos g2']
    obtain ⟨t3, u3, v3⟩ := M.merge_to (b := b) (l := l) (m := b) (R := l) z1 z2 z1 z2 (fun k => by unfold M.mtab M.mval; split <;> (try split) <;> omega) (fun k => by unfold M.mclash; simp)
    obtain ⟨t4, u4, v4⟩ := M.merge_to (b := b) (l := b) (m := m) (R := m) z1 z1 z3 z3 (fun k => by unfold M.mtab M.mval; split <;> (try split) <;> omega) (fun k => by unfold M.mclash; simp)
    obtain ⟨t5, u5, v5⟩ := M.merge_to (b := b) (l := l) (m := l) (R := l) z1 z2 z2 z2 (fun k => by unfold M.mtab M.mval; simp) (fun k => by unfold M.mclash; simp)
    exact ⟨hE3.trans t3, hE4.trans t4, hE5.trans t5, hK3.trans v3, hK4.trans v4, hK5.trans v5, hR3.trans u3, hR4.trans u4, hR5.trans u5, by rw [s1, s2, M.mkeys_swap], fun hk => by rw [r1, r2]; exact M.mrows_swap b l m (s1.symm.trans hk), r1, s1, z1, z2, z3⟩
  clear h1 h2 h3 q0 q1 hR1 hR2 hR3 hR4 hR5 hK1 hK2 hK3 hK4 hK5 hE1 hE2 hE3 hE4 hE5
  go_enter Try.func6, Try.ntmps6
  go_wp2_with fail
  refine (HM1.out _ (Below.refl _ _)).mono ?_
  rintro e w1 ⟨la1, ln1, lc1, ka1, kn1, kc1, rfl, rl, hlc, hlm, _, rk, hkc, hkm, hb⟩
  have hln1 : ln1 ≤ 9223372036854775807 := by unfold maxLen at hlm; omega
  have hkn1 : kn1 ≤ 9223372036854775807 := by unfold maxLen at hkm; omega
  have q1 : Below w.heap.size w w1 := hb
  have RL1_1 : Hid (Rd w1 la1 ln1 R1) := rl
  have RK1_1 : Hid (Ri w1 ka1 kn1 K1) := rk
  clear rl rk hb hlc hlm hkc hkm HM1  
  go_wp2_with fail
  refine (HM2.out _ (q1)).mono ?_
  rintro e w2 ⟨la2, ln2, lc2, ka2, kn2, kc2, rfl, rl, hlc, hlm, _, rk, hkc, hkm, hb⟩
  have hln2 : ln2 ≤ 9223372036854775807 := by unfold maxLen at hlm; omega
  have hkn2 : kn2 ≤ 9223372036854775807 := by unfold maxLen at hkm; omega
  have q2 := below2 q1 hb
  have RL2_2 : Hid (Rd w2 la2 ln2 R2) := rl
  have RK2_2 : Hid (Ri w2 ka2 kn2 K2) := rk
  have RL1_2 : Hid (Rd w2 la1 ln1 R1) := RL1_1.out.below hb (Nat.le_refl _)
  have RK1_2 : Hid (Ri w2 ka1 kn1 K1) := RK1_1.out.below hb (Nat.le_refl _)
  clear rl rk hb hlc hlm hkc hkm HM2 q1 RL1_1 RK1_1
  go_wp2_with fail
  refine (HM3.out _ (q2)).mono ?_
  rintro e w3 ⟨la3, ln3, lc3, ka3, kn3, kc3, rfl, rl, hlc, hlm, _, rk, hkc, hkm, hb⟩
  have hln3 : ln3 ≤ 9223372036854775807 := by unfold maxLen at hlm; omega
  have hkn3 : kn3 ≤ 9223372036854775807 := by unfold maxLen at hkm; omega
  have q3 := below2 q2 hb
  have RL3_3 : Hid (Rd w3 la3 ln3 R3) := rl
  have RK3_3 : Hid (Ri w3 ka3 kn3 K3) := rk
  have RL1_3 : Hid (Rd w3 la1 ln1 R1) := RL1_2.out.below hb (Nat.le_refl _)
  have RK1_3 : Hid (Ri w3 ka1 kn1 K1) := RK1_2.out.below hb (Nat.le_refl _)
  have RL2_3 : Hid (Rd w3 la2 ln2 R2) := RL2_2.out.below hb (Nat.le_refl _)
  have RK2_3 : Hid (Ri w3 ka2 kn2 K2) := RK2_2.out.below hb (Nat.le_refl _)
  clear rl rk hb hlc hlm hkc hkm HM3 q2 RL1_2 RK1_2 RL2_2 RK2_2
  go_wp2_with fail
  refine (HM4.out _ (q3)).mono ?_
  rintro e w4 ⟨la4, ln4, lc4, ka4, kn4, kc4, rfl, rl, hlc, hlm, _, rk, hkc, hkm, hb⟩
  have hln4 : ln4 ≤ 9223372036854775807 := by unfold maxLen at hlm; omega
  have hkn4 : kn4 ≤ 9223372036854775807 := by unfold maxLen at hkm; omega
  have q4 := below2 q3 hb
  have RL4_4 : Hid (Rd w4 la4 ln4 R4) := rl
  have RK4_4 : Hid (Ri w4 ka4 kn4 K4) := rk
  have RL1_4 : Hid (Rd w4 la1 ln1 R1) := RL1_3.out.below hb (Nat.le_refl _)
  have RK1_4 : Hid (Ri w4 ka1 kn1 K1) := RK1_3.out.below hb (Nat.le_refl _)
  have RL2_4 : Hid (Rd w4 la2 ln2 R2) := RL2_3.out.below hb (Nat.le_refl _)
  have RK2_4 : Hid (Ri w4 ka2 kn2 K2) := RK2_3.out.below hb (Nat.le_refl _)
  have RL3_4 : Hid (Rd w4 la3 ln3 R3) := RL3_3.out.below hb (Nat.le_refl _)
  have RK3_4 : Hid (Ri w4 ka3 kn3 K3) := RK3_3.out.below hb (Nat.le_refl _)
  clear rl rk hb hlc hlm hkc hkm HM4 q3 RL1_3 RK1_3 RL2_3 RK2_3 RL3_3 RK3_3
  go_wp2_with fail
  refine (HM5.out _ (q4)).mono ?_
  rintro e w5 ⟨la5, ln5, lc5, ka5, kn5, kc5, rfl, rl, hlc, hlm, _, rk, hkc, hkm, hb⟩
  have hln5 : ln5 ≤ 9223372036854775807 := by unfold maxLen at hlm; omega
  have hkn5 : kn5 ≤ 9223372036854775807 := by unfold maxLen at hkm; omega
  have q5 := below2 q4 hb
  have RL5_5 : Hid (Rd w5 la5 ln5 R5) := rl
  have RK5_5 : Hid (Ri w5 ka5 kn5 K5) := rk
  have RL1_5 : Hid (Rd w5 la1 ln1 R1) := RL1_4.out.below hb (Nat.le_refl _)
  have RK1_5 : Hid (Ri w5 ka1 kn1 K1) := RK1_4.out.below hb (Nat.le_refl _)
  have RL2_5 : Hid (Rd w5 la2 ln2 R2) := RL2_4.out.below hb (Nat.le_refl _)
  have RK2_5 : Hid (Ri w5 ka2 kn2 K2) := RK2_4.out.below hb (Nat.le_refl _)
  have RL3_5 : Hid (Rd w5 la3 ln3 R3) := RL3_4.out.below hb (Nat.le_refl _)
  have RK3_5 : Hid (Ri w5 ka3 kn3 K3) := RK3_4.out.below hb (Nat.le_refl _)
  have RL4_5 : Hid (Rd w5 la4 ln4 R4) := RL4_4.out.below hb (Nat.le_refl _)
  have RK4_5 : Hid (Ri w5 ka4 kn4 K4) := RK4_4.out.below hb (Nat.le_refl _)
  clear rl rk hb hlc hlm hkc hkm HM5 q4 RL1_4 RK1_4 RL2_4 RK2_4 RL3_4 RK3_4 RL4_4 RK4_4
  have begun : Hid (∀ W, Below w.heap.size w W → Calls Try.prog 21 #[] W fun e w' => e = .returned (.bool true) ∧ Below w.heap.size w w') := fun W hW => (threeBegun_any W).mono fun e w' ⟨he, hb⟩ => ⟨he, below2 hW hb⟩
  by_cases g1 : E1 = 0
  · by_cases g2 : E2 = 0
    · obtain ⟨e3, e4, e5, j3, j4, j5, r3, r4, r5, j12, r12, r1, j1, z1, z2, z3⟩ := HAll.out g1 g2
      have HMC : Hid (M.chk R1 = 0) := by unfold Hid; rw [r1]; exact M.mrows_chk (HDat.out.1.symm.trans g1)
      have r3' := r3.symm
      have r4' := r4.symm
      have r5' := r5.symm
      clear r3 r4 r5
      subst g1 g2 e3 e4 e5 j3 j4 j5 r3' r4' r5' j12
      obtain rfl : kn3 = 0 := RK3_5.out.1.symm
      obtain rfl : kn4 = 0 := RK4_5.out.1.symm
      obtain rfl : kn5 = 0 := RK5_5.out.1.symm
      have HR12 : Hid (K1 = [] → R1 = R2) := r12
      have HR1 : Hid (R1 = M.mrows b l m) := r1
      have HK1 : Hid (K1 = M.mkeys b l m) := j1
      have Z1 : Hid (M.chk b = 0) := z1
      have Z2 : Hid (M.chk l = 0) := z2
      have Z3 : Hid (M.chk m = 0) := z3
      clear r12 r1 j1 z1 z2 z3 HAll HDat
      have HS3 := (same_any la3 a2 ln3 n2 lc3 c2 l l w5 RL3_5.out (H2.out.below q5 (Nat.le_refl _)) hln3)
      rw [decide_eq_true rfl] at HS3
      have S3 : Hid (Calls Try.prog 14 #[.slice la3 ln3 lc3, .slice a2 n2 c2] w5 fun e w' => e = .returned (.bool true) ∧ Below w5.heap.size w5 w') := HS3
      clear HS3
      go_wp2_with fail
      refine S3.out.mono ?_
      rintro e w6 ⟨rfl, hb6⟩
      have q6 := below2 q5 hb6
      have HS4 := (same_any la4 a3 ln4 n3 lc4 c3 m m w6 (RL4_5.out.below hb6 (Nat.le_refl _)) (H3.out.below q6 (Nat.le_refl _)) hln4)
      rw [decide_eq_true rfl] at HS4
      have S4 : Hid (Calls Try.prog 14 #[.slice la4 ln4 lc4, .slice a3 n3 c3] w6 fun e w' => e = .returned (.bool true) ∧ Below w6.heap.size w6 w') := HS4
      have RL5_6 : Hid (Rd w6 la5 ln5 l) := RL5_5.out.below hb6 (Nat.le_refl _)
      have RL1_6 : Hid (Rd w6 la1 ln1 R1) := RL1_5.out.below hb6 (Nat.le_refl _)
      have RL2_6 : Hid (Rd w6 la2 ln2 R2) := RL2_5.out.below hb6 (Nat.le_refl _)
      have RK1_6 : Hid (Ri w6 ka1 kn1 K1) := RK1_5.out.below hb6 (Nat.le_refl _)
      have RK2_6 : Hid (Ri w6 ka2 kn2 K1) := RK2_5.out.below hb6 (Nat.le_refl _)
      clear HS4 hb6 q5 S3 RL1_5 RL2_5 RL3_5 RL4_5 RL5_5 RK1_5 RK2_5 RK3_5 RK4_5 RK5_5
      go_wp2_with fail
      refine S4.out.mono ?_
      rintro e w7 ⟨rfl, hb7⟩
      have q7 := below2 q6 hb7
      have HS5 := (same_any la5 a2 ln5 n2 lc5 c2 l l w7 (RL5_6.out.below hb7 (Nat.le_refl _)) (H2.out.below q7 (Nat.le_refl _)) hln5)
      rw [decide_eq_true rfl] at HS5
      have S5 : Hid (Calls Try.prog 14 #[.slice la5 ln5 lc5, .slice a2 n2 c2] w7 fun e w' => e = .returned (.bool true) ∧ Below w7.heap.size w7 w') := HS5
      have RL1_7 : Hid (Rd w7 la1 ln1 R1) := RL1_6.out.below hb7 (Nat.le_refl _)
      have RL2_7 : Hid (Rd w7 la2 ln2 R2) := RL2_6.out.below hb7 (Nat.le_refl _)
      have RK1_7 : Hid (Ri w7 ka1 kn1 K1) := RK1_6.out.below hb7 (Nat.le_refl _)
      have RK2_7 : Hid (Ri w7 ka2 kn2 K1) := RK2_6.out.below hb7 (Nat.le_refl _)
      clear HS5 hb7 q6 S4 RL1_6 RL2_6 RL5_6 RK1_6 RK2_6
      go_wp2_with fail
      refine S5.out.mono ?_
      rintro e w8 ⟨rfl, hb8⟩
      have q8 := below2 q7 hb8
      have HI := isame_any ka1 ka2 kn1 kn2 kc1 kc2 K1 K1 w8 (RK1_7.out.below hb8 (Nat.le_refl _)) (RK2_7.out.below hb8 (Nat.le_refl _)) hkn1
      rw [decide_eq_true rfl] at HI
      have SI : Hid (Calls Try.prog 22 #[.slice ka1 kn1 kc1, .slice ka2 kn2 kc2] w8 fun e w' => e = .returned (.bool true) ∧ Below w8.heap.size w8 w') := HI
      have RL1_8 : Hid (Rd w8 la1 ln1 R1) := RL1_7.out.below hb8 (Nat.le_refl _)
      have RL2_8 : Hid (Rd w8 la2 ln2 R2) := RL2_7.out.below hb8 (Nat.le_refl _)
      have RK1_8 : Hid (Ri w8 ka1 kn1 K1) := RK1_7.out.below hb8 (Nat.le_refl _)
      clear HI hb8 q7 S5 RL1_7 RL2_7 RK1_7 RK2_7
      go_wp2_with fail
      refine SI.out.mono ?_
      rintro e w9 ⟨rfl, hb9⟩
      have q9 := below2 q8 hb9
      have RL1_9 : Hid (Rd w9 la1 ln1 R1) := RL1_8.out.below hb9 (Nat.le_refl _)
      have RL2_9 : Hid (Rd w9 la2 ln2 R2) := RL2_8.out.below hb9 (Nat.le_refl _)
      have RK1_9 : Hid (Ri w9 ka1 kn1 K1) := RK1_8.out.below hb9 (Nat.le_refl _)
      clear hb9 q8 SI RL1_8 RL2_8 RK1_8
      -- what follows, in any later world
      have hkn100 : kn1 ≤ 100 := by rw [← RK1_9.out.1, HK1.out]; exact M.mkeys_len b l m
      have hn1 : n1 ≤ 40 := by rw [← H1.out.1]; exact ((M.chk_zero b).1 Z1.out).1
      have hn2 : n2 ≤ 40 := by rw [← H2.out.1]; exact ((M.chk_zero l).1 Z2.out).1
      have hn3 : n3 ≤ 40 := by rw [← H3.out.1]; exact ((M.chk_zero m).1 Z3.out).1
      have F : ∀ (aa : Option Addr) (nn cc : Nat) (ll : List (Int × Int)) (kk : Nat) (W : World), Rd W aa nn ll → nn ≤ 9223372036854775807 → M.chk ll = 0 → kk < 100 → Calls Try.prog 18 #[.slice aa nn cc, .int .i64 (kk : Int)] W fun e w' => e = .returned (.tuple #[.int .i64 (M.find kk ll), .int .i64 0]) ∧ Below W.heap.size W w' := fun aa nn cc ll kk W hr hn hz hk => by
        have H := find_any aa nn cc ll kk W hr hn
        have e := M.asked_ok hz (key := (kk : Int)) (by omega) (by omega)
        rw [M.findV_ok e, e] at H
        exact H
      have HF : Hid (∀ (aa : Option Addr) (nn cc : Nat) (ll : List (Int × Int)) (kk : Nat) (W : World), Rd W aa nn ll → nn ≤ 9223372036854775807 → M.chk ll = 0 → kk < 100 → Calls Try.prog 18 #[.slice aa nn cc, .int .i64 (kk : Int)] W fun e w' => e = .returned (.tuple #[.int .i64 (M.find kk ll), .int .i64 0]) ∧ Below W.heap.size W w') := F
      clear F
      by_cases hc0 : kn1 = 0
      · have hcb : ((kn1 : Int) == 0) = true := by simp [hc0]
        have eK : K1 = [] := List.eq_nil_of_length_eq_zero (by rw [RK1_9.out.1]; exact hc0)
        have HSx := same_any la1 la2 ln1 ln2 lc1 lc2 R1 R2 w9 RL1_9.out RL2_9.out hln1
        rw [decide_eq_true (HR12.out eK)] at HSx
        have Sx : Hid (Calls Try.prog 14 #[.slice la1 ln1 lc1, .slice la2 ln2 lc2] w9 fun e w' => e = .returned (.bool true) ∧ Below w9.heap.size w9 w') := HSx
        clear HSx hc0 eK
        go_wp2_with fail
        refine Sx.out.mono ?_
        rintro e wa ⟨rfl, hba⟩
        have qa := below2 q9 hba
        have RL1_a : Hid (Rd wa la1 ln1 R1) := RL1_9.out.below hba (Nat.le_refl _)
        have RK1_a : Hid (Ri wa ka1 kn1 K1) := RK1_9.out.below hba (Nat.le_refl _)
        clear hba q9 Sx RL1_9 RL2_9 RK1_9
        go_wp2_with fail
        refine (choose_any key 100 _ HQ.out.1 HQ.out.2 (by omega) (by omega)).mono ?_
        rintro e wx ⟨k, rfl, hk100, hwx⟩
        subst hwx
        obtain ⟨x, hx⟩ : ∃ x, x = M.find (k : Int) b := ⟨_, rfl⟩
        obtain ⟨y, hy⟩ : ∃ y, y = M.find (k : Int) l := ⟨_, rfl⟩
        obtain ⟨z, hz⟩ : ∃ z, z = M.find (k : Int) m := ⟨_, rfl⟩
        obtain ⟨v, hv⟩ : ∃ v, v = M.find (k : Int) R1 := ⟨_, rfl⟩
        have hvm : v = M.mval x y z := by rw [hv, HR1.out]; unfold M.mrows; rw [M.find_ofTab _ k hk100, hx, hy, hz]; exact rfl
        have hca : K1.any (fun q => q == (k : Int)) = M.mclash x y z := by rw [HK1.out, M.mkeys_any b l m k hk100, hx, hy, hz]
        obtain ⟨b1, b2, b3, b4, b5, f1, f2, f3, f4, f5, f6, f7⟩ := M.mlaw x y z
        rw [← hvm] at f4 f5
        rw [← hca] at f6
        have HX : Hid (x = M.find (k : Int) b) := hx
        have HY : Hid (y = M.find (k : Int) l) := hy
        have HZ : Hid (z = M.find (k : Int) m) := hz
        have HV : Hid (v = M.find (k : Int) R1) := hv
        have HF6 : Hid (K1.any (fun q => q == (k : Int)) = (b1 && b2 && b3)) := f6
        have HF7 : Hid (((b1 || b4) && (b2 || b5) && (b3 || b5)) = true) := f7
        clear hx hy hz hv hvm hca f6 f7
        have G1 := HF.out a1 n1 c1 b k wx (H1.out.below qa (Nat.le_refl _)) k1 Z1.out hk100
        rw [← HX.out] at G1
        have GG1 : Hid (Calls Try.prog 18 #[.slice a1 n1 c1, .int .i64 (k : Int)] wx fun e w' => e = .returned (.tuple #[.int .i64 x, .int .i64 0]) ∧ Below wx.heap.size wx w') := G1
        clear G1
        go_wp2_with fail
        refine GG1.out.mono ?_
        rintro e wb ⟨rfl, hbb⟩
        have qb := below2 qa hbb
        have G2 := HF.out a2 n2 c2 l k wb (H2.out.below qb (Nat.le_refl _)) k2 Z2.out hk100
        rw [← HY.out] at G2
        have GG2 : Hid (Calls Try.prog 18 #[.slice a2 n2 c2, .int .i64 (k : Int)] wb fun e w' => e = .returned (.tuple #[.int .i64 y, .int .i64 0]) ∧ Below wb.heap.size wb w') := G2
        have RL1_b : Hid (Rd wb la1 ln1 R1) := RL1_a.out.below hbb (Nat.le_refl _)
        have RK1_b : Hid (Ri wb ka1 kn1 K1) := RK1_a.out.below hbb (Nat.le_refl _)
        clear G2 hbb qa GG1 RL1_a RK1_a
        go_wp2_with fail
        refine GG2.out.mono ?_
        rintro e wc ⟨rfl, hbc⟩
        have qc := below2 qb hbc
        have G3 := HF.out a3 n3 c3 m k wc (H3.out.below qc (Nat.le_refl _)) k3 Z3.out hk100
        rw [← HZ.out] at G3
        have GG3 : Hid (Calls Try.prog 18 #[.slice a3 n3 c3, .int .i64 (k : Int)] wc fun e w' => e = .returned (.tuple #[.int .i64 z, .int .i64 0]) ∧ Below wc.heap.size wc w') := G3
        have RL1_c : Hid (Rd wc la1 ln1 R1) := RL1_b.out.below hbc (Nat.le_refl _)
        have RK1_c : Hid (Ri wc ka1 kn1 K1) := RK1_b.out.below hbc (Nat.le_refl _)
        clear G3 hbc qb GG2 RL1_b RK1_b
        go_wp2_with fail
        refine GG3.out.mono ?_
        rintro e wd ⟨rfl, hbd⟩
        have qd := below2 qc hbd
        have RL1_d : Hid (Rd wd la1 ln1 R1) := RL1_c.out.below hbd (Nat.le_refl _)
        have RK1_d : Hid (Ri wd ka1 kn1 K1) := RK1_c.out.below hbd (Nat.le_refl _)
        have G4 := HF.out la1 ln1 lc1 R1 k wd RL1_d.out hln1 HMC.out hk100
        rw [← HV.out] at G4
        have GG4 : Hid (Calls Try.prog 18 #[.slice la1 ln1 lc1, .int .i64 (k : Int)] wd fun e w' => e = .returned (.tuple #[.int .i64 v, .int .i64 0]) ∧ Below wd.heap.size wd w') := G4
        clear G4 hbd qc GG3 RL1_c RK1_c
        go_wp2_with fail
        refine GG4.out.mono ?_
        rintro e we ⟨rfl, hbe⟩
        have qe := below2 qd hbe
        have RK1_e : Hid (Ri we ka1 kn1 K1) := RK1_d.out.below hbe (Nat.le_refl _)
        clear hbe qd GG4 RL1_d RK1_d HF HX HY HZ HV
        go_wp2
        go_loopg [33, 34] kn1 (fun g vc vi wr => ∃ j : Nat, j + g = kn1 ∧ vi = .int .i64 j ∧ vc = .bool ((K1.take j).any (fun q => q == (k : Int))) ∧ wr = we)
        case atStart => exact ⟨0, by omega, rfl, rfl, rfl⟩
        case round =>
          obtain ⟨j, hjg, rfl, rfl, rfl⟩ := hrel
          by_cases hj : j < kn1
          · have hji : (j : Int) < (kn1 : Int) := by omega
            obtain ⟨kb, ko, rfl, hkB, hkc⟩ : ∃ kb ko, ka1 = some ⟨kb, ko, none⟩ ∧ kb < wr.heap.size ∧ ∀ i, i < kn1 → wr.cell? ⟨kb, ko + i, none⟩ = some (.int .i64 (K1.getD i 0)) := by
              rcases RK1_e.out.cases with ⟨h0, _⟩ | ⟨kb, ko, e, _, _, hkB, hkc⟩
              · omega
              · exact ⟨kb, ko, e, hkB, hkc⟩
            have ck := hkc j hj
            obtain ⟨q, hq⟩ : ∃ q, K1.getD j 0 = q := ⟨_, rfl⟩
            rw [hq] at ck
            have hT := M.iany_take K1 (fun q => q == (k : Int)) j (by rw [RK1_e.out.1]; exact hj)
            rw [hq] at hT
            obtain ⟨U, hU⟩ : ∃ U, (K1.take j).any (fun q => q == (k : Int)) = U := ⟨_, rfl⟩
            obtain ⟨t, ht⟩ : ∃ t, (q == (k : Int)) = t := ⟨_, rfl⟩
            rw [hU] at hT ⊢
            have hT2 : (K1.take (j + 1)).any (fun q => q == (k : Int)) = (U || t) := by rw [← ht]; exact hT
            have HT : Hid ((K1.take (j + 1)).any (fun q => q == (k : Int)) = (U || t)) := hT2
            clear hkc hq hT hT2 hU
            cases U <;> cases t
            all_goals (
              go_wp2
              go_roundg (gk - 1)
              case measure => omega
              case rel => exact ⟨j + 1, by omega, by go_num, by rw [HT.out]; rfl, rfl⟩)
          · have hU : (K1.take j).any (fun q => q == (k : Int)) = (b1 && b2 && b3) := by rw [List.take_of_length_le (by rw [RK1_e.out.1]; omega)]; exact HF6.out
            rw [hU]
            have h7 := HF7.out
            have hji : decide ((j : Int) < (kn1 : Int)) = false := by simp; omega
            clear hU HF6 HF7
            cases b1 <;> cases b2 <;> cases b3 <;> cases b4 <;> cases b5 <;> first
              | (exact absurd h7 (by decide))
              | (clear h7
                 go_wp2_with fail
                 refine (begun.out _ qe).mono ?_
                 rintro e wz ⟨rfl, hbz⟩
                 go_wp2
                 go_ret
                 exact ⟨rfl, hbz⟩)
      · have hcb : ((kn1 : Int) == 0) = false := by simp; omega
        have qa := q9
        have RL1_a : Hid (Rd w9 la1 ln1 R1) := RL1_9
        have RK1_a : Hid (Ri w9 ka1 kn1 K1) := RK1_9
        clear hc0 RL1_9 RL2_9 RK1_9 q9
        obtain ⟨wa, hwa⟩ : ∃ wa, wa = w9 := ⟨_, rfl⟩
        rw [← hwa] at qa RL1_a RK1_a
        rw [← hwa]
        clear hwa
        go_wp2_with fail
        refine (choose_any key 100 _ HQ.out.1 HQ.out.2 (by omega) (by omega)).mono ?_
        rintro e wx ⟨k, rfl, hk100, hwx⟩
        subst hwx
        obtain ⟨x, hx⟩ : ∃ x, x = M.find (k : Int) b := ⟨_, rfl⟩
        obtain ⟨y, hy⟩ : ∃ y, y = M.find (k : Int) l := ⟨_, rfl⟩
        obtain ⟨z, hz⟩ : ∃ z, z = M.find (k : Int) m := ⟨_, rfl⟩
        obtain ⟨v, hv⟩ : ∃ v, v = M.find (k : Int) R1 := ⟨_, rfl⟩
        have hvm : v = M.mval x y z := by rw [hv, HR1.out]; unfold M.mrows; rw [M.find_ofTab _ k hk100, hx, hy, hz]; exact rfl
        have hca : K1.any (fun q => q == (k : Int)) = M.mclash x y z := by rw [HK1.out, M.mkeys_any b l m k hk100, hx, hy, hz]
        obtain ⟨b1, b2, b3, b4, b5, f1, f2, f3, f4, f5, f6, f7⟩ := M.mlaw x y z
        rw [← hvm] at f4 f5
        rw [← hca] at f6
        have HX : Hid (x = M.find (k : Int) b) := hx
        have HY : Hid (y = M.find (k : Int) l) := hy
        have HZ : Hid (z = M.find (k : Int) m) := hz
        have HV : Hid (v = M.find (k : Int) R1) := hv
        have HF6 : Hid (K1.any (fun q => q == (k : Int)) = (b1 && b2 && b3)) := f6
        have HF7 : Hid (((b1 || b4) && (b2 || b5) && (b3 || b5)) = true) := f7
        clear hx hy hz hv hvm hca f6 f7
        have G1 := HF.out a1 n1 c1 b k wx (H1.out.below qa (Nat.le_refl _)) k1 Z1.out hk100
        rw [← HX.out] at G1
        have GG1 : Hid (Calls Try.prog 18 #[.slice a1 n1 c1, .int .i64 (k : Int)] wx fun e w' => e = .returned (.tuple #[.int .i64 x, .int .i64 0]) ∧ Below wx.heap.size wx w') := G1
        clear G1
        go_wp2_with fail
        refine GG1.out.mono ?_
        rintro e wb ⟨rfl, hbb⟩
        have qb := below2 qa hbb
        have G2 := HF.out a2 n2 c2 l k wb (H2.out.below qb (Nat.le_refl _)) k2 Z2.out hk100
        rw [← HY.out] at G2
        have GG2 : Hid (Calls Try.prog 18 #[.slice a2 n2 c2, .int .i64 (k : Int)] wb fun e w' => e = .returned (.tuple #[.int .i64 y, .int .i64 0]) ∧ Below wb.heap.size wb w') := G2
        have RL1_b : Hid (Rd wb la1 ln1 R1) := RL1_a.out.below hbb (Nat.le_refl _)
        have RK1_b : Hid (Ri wb ka1 kn1 K1) := RK1_a.out.below hbb (Nat.le_refl _)
        clear G2 hbb qa GG1 RL1_a RK1_a
        go_wp2_with fail
        refine GG2.out.mono ?_
        rintro e wc ⟨rfl, hbc⟩
        have qc := below2 qb hbc
        have G3 := HF.out a3 n3 c3 m k wc (H3.out.below qc (Nat.le_refl _)) k3 Z3.out hk100
        rw [← HZ.out] at G3
        have GG3 : Hid (Calls Try.prog 18 #[.slice a3 n3 c3, .int .i64 (k : Int)] wc fun e w' => e = .returned (.tuple #[.int .i64 z, .int .i64 0]) ∧ Below wc.heap.size wc w') := G3
        have RL1_c : Hid (Rd wc la1 ln1 R1) := RL1_b.out.below hbc (Nat.le_refl _)
        have RK1_c : Hid (Ri wc ka1 kn1 K1) := RK1_b.out.below hbc (Nat.le_refl _)
        clear G3 hbc qb GG2 RL1_b RK1_b
        go_wp2_with fail
        refine GG3.out.mono ?_
        rintro e wd ⟨rfl, hbd⟩
        have qd := below2 qc hbd
        have RL1_d : Hid (Rd wd la1 ln1 R1) := RL1_c.out.below hbd (Nat.le_refl _)
        have RK1_d : Hid (Ri wd ka1 kn1 K1) := RK1_c.out.below hbd (Nat.le_refl _)
        have G4 := HF.out la1 ln1 lc1 R1 k wd RL1_d.out hln1 HMC.out hk100
        rw [← HV.out] at G4
        have GG4 : Hid (Calls Try.prog 18 #[.slice la1 ln1 lc1, .int .i64 (k : Int)] wd fun e w' => e = .returned (.tuple #[.int .i64 v, .int .i64 0]) ∧ Below wd.heap.size wd w') := G4
        clear G4 hbd qc GG3 RL1_c RK1_c
        go_wp2_with fail
        refine GG4.out.mono ?_
        rintro e we ⟨rfl, hbe⟩
        have qe := below2 qd hbe
        have RK1_e : Hid (Ri we ka1 kn1 K1) := RK1_d.out.below hbe (Nat.le_refl _)
        clear hbe qd GG4 RL1_d RK1_d HF HX HY HZ HV
        go_wp2
        go_loopg [33, 34] kn1 (fun g vc vi wr => ∃ j : Nat, j + g = kn1 ∧ vi = .int .i64 j ∧ vc = .bool ((K1.take j).any (fun q => q == (k : Int))) ∧ wr = we)
        case atStart => exact ⟨0, by omega, rfl, rfl, rfl⟩
        case round =>
          obtain ⟨j, hjg, rfl, rfl, rfl⟩ := hrel
          by_cases hj : j < kn1
          · have hji : (j : Int) < (kn1 : Int) := by omega
            obtain ⟨kb, ko, rfl, hkB, hkc⟩ : ∃ kb ko, ka1 = some ⟨kb, ko, none⟩ ∧ kb < wr.heap.size ∧ ∀ i, i < kn1 → wr.cell? ⟨kb, ko + i, none⟩ = some (.int .i64 (K1.getD i 0)) := by
              rcases RK1_e.out.cases with ⟨h0, _⟩ | ⟨kb, ko, e, _, _, hkB, hkc⟩
              · omega
              · exact ⟨kb, ko, e, hkB, hkc⟩
            have ck := hkc j hj
            obtain ⟨q, hq⟩ : ∃ q, K1.getD j 0 = q := ⟨_, rfl⟩
            rw [hq] at ck
            have hT := M.iany_take K1 (fun q => q == (k : Int)) j (by rw [RK1_e.out.1]; exact hj)
            rw [hq] at hT
            obtain ⟨U, hU⟩ : ∃ U, (K1.take j).any (fun q => q == (k : Int)) = U := ⟨_, rfl⟩
            obtain ⟨t, ht⟩ : ∃ t, (q == (k : Int)) = t := ⟨_, rfl⟩
            rw [hU] at hT ⊢
            have hT2 : (K1.take (j + 1)).any (fun q => q == (k : Int)) = (U || t) := by rw [← ht]; exact hT
            have HT : Hid ((K1.take (j + 1)).any (fun q => q == (k : Int)) = (U || t)) := hT2
            clear hkc hq hT hT2 hU
            cases U <;> cases t
            all_goals (
              go_wp2
              go_roundg (gk - 1)
              case measure => omega
              case rel => exact ⟨j + 1, by omega, by go_num, by rw [HT.out]; rfl, rfl⟩)
          · have hU : (K1.take j).any (fun q => q == (k : Int)) = (b1 && b2 && b3) := by rw [List.take_of_length_le (by rw [RK1_e.out.1]; omega)]; exact HF6.out
            rw [hU]
            have h7 := HF7.out
            have hji : decide ((j : Int) < (kn1 : Int)) = false := by simp; omega
            clear hU HF6 HF7
            cases b1 <;> cases b2 <;> cases b3 <;> cases b4 <;> cases b5 <;> first
              | (exact absurd h7 (by decide))
              | (clear h7
                 go_wp2_with fail
                 refine (begun.out _ qe).mono ?_
                 rintro e wz ⟨rfl, hbz⟩
                 go_wp2
                 go_ret
                 exact ⟨rfl, hbz⟩)
    · have hb1 : (E1 != 0) = false := by simp [g1]
      have hb2 : (E2 != 0) = true := by simp [g2]
      clear g1 g2 HAll HDat
      go_wp2_with fail
      refine (begun.out _ q5).mono ?_
      rintro e w6 ⟨rfl, hb⟩
      go_wp2
      go_ret
      exact ⟨rfl, hb⟩
  · have hb1 : (E1 != 0) = true := by simp [g1]
    clear g1 HAll HDat
    go_wp2_with fail
    refine (begun.out _ q5).mono ?_
    rintro e w6 ⟨rfl, hb⟩
    go_wp2
    go_ret
    exact ⟨rfl, hb⟩

set_option maxRecDepth 100000 in
theorem threeTrue_lifted (os : Os) (started : os.Started) (H : Type) (enc : TypeId × Value → H) :
    ReturnsInHanded {} Try.checked os 6 .any (Rows.threeTrueSpec.pre6 enc Try.prog Try.f6 Rows.threeTrueRow.domain false) (Rows.threeTrueSpec.post enc Try.prog Try.f6 false true false false) := by
  refine returnsInHanded_of_change (C := Try.checked) ownTry started (by kernel_rfl) Try.func6
    (ChangeSpec.witness6 (enc := enc) (C := Try.checked) false ⟨#[], #[.slice none 0 0, .slice none 0 0, .slice none 0 0, .int .i64 0], []⟩ 8 (by kernel_rfl) (by kernel_rfl) (by kernel_rfl) (by kernel_rfl)) ?_
  intro W base args ds gs before hval0 hW hcnd _
  have hval : ∀ (j : Nat) t v, Try.f6.params[j]? = some t → args[j]? = some v → Value.okWide Try.prog W .any base t v := hval0
  have hW' := hW
  obtain ⟨p, q, hA0, hV, rfl, hfz, hnd⟩ := hW
  have hA : DataW.TrodAll enc Try.prog W 0 (fun _ => true) true Try.f6.params.toList args.toList ds p := hA0
  rw [Try.params6] at hA hval
  obtain ⟨v0, vs0, d0, ds0, p0, q0, hargs, rfl, rfl, h0, r0⟩ := trodAll_cons hA
  obtain ⟨v1, vs1, d1, ds1, p1, q1, rfl, rfl, rfl, h1, r1⟩ := trodAll_cons r0
  obtain ⟨v2, vs2, d2, ds2, p2, q2, rfl, rfl, rfl, h2, r2⟩ := trodAll_cons r1
  obtain ⟨v3, vs3, d3, ds3, p3, q3, rfl, rfl, rfl, h3, r3⟩ := trodAll_cons r2
  obtain ⟨rfl, rfl, rfl⟩ := trodAll_nil r3
  obtain rfl : args = #[v0, v1, v2, v3] := by cases args; simp_all
  obtain ⟨rfl, rfl⟩ := trodVars_none hV
  obtain ⟨a0, len0, cap0, rfl⟩ := okWide_slice Try.underlying22 (hval 0 22 v0 rfl rfl)
  have k0 := h0
  have lt0 : ∀ x ∈ p0, x.block < W.heap.size := by obtain ⟨m, hm⟩ := k0; exact DataW.trod_lt m _ _ _ hm
  obtain ⟨l0, hrd0, hl0, hm0, hnil0⟩ : ∃ l, Rd W a0 len0 l ∧ len0 ≤ cap0 ∧ cap0 ≤ maxLen ∧ (a0 = none → len0 = 0 ∧ cap0 = 0) := by
    obtain ⟨fuel, hf⟩ := h0
    exact open_rows (by simpa [Value.cells] using hf)
  obtain ⟨a1, len1, cap1, rfl⟩ := okWide_slice Try.underlying22 (hval 1 22 v1 rfl rfl)
  have k1 := h1
  have lt1 : ∀ x ∈ p1, x.block < W.heap.size := by obtain ⟨m, hm⟩ := k1; exact DataW.trod_lt m _ _ _ hm
  obtain ⟨l1, hrd1, hl1, hm1, hnil1⟩ : ∃ l, Rd W a1 len1 l ∧ len1 ≤ cap1 ∧ cap1 ≤ maxLen ∧ (a1 = none → len1 = 0 ∧ cap1 = 0) := by
    obtain ⟨fuel, hf⟩ := h1
    exact open_rows (by simpa [Value.cells] using hf)
  obtain ⟨a2, len2, cap2, rfl⟩ := okWide_slice Try.underlying22 (hval 2 22 v2 rfl rfl)
  have k2 := h2
  have lt2 : ∀ x ∈ p2, x.block < W.heap.size := by obtain ⟨m, hm⟩ := k2; exact DataW.trod_lt m _ _ _ hm
  obtain ⟨l2, hrd2, hl2, hm2, hnil2⟩ : ∃ l, Rd W a2 len2 l ∧ len2 ≤ cap2 ∧ cap2 ≤ maxLen ∧ (a2 = none → len2 = 0 ∧ cap2 = 0) := by
    obtain ⟨fuel, hf⟩ := h2
    exact open_rows (by simpa [Value.cells] using hf)
  obtain ⟨a3, rfl, rfl, rfl, w3⟩ := open_int Try.underlying3 (hval 3 3 v3 rfl rfl) h3
  clear hA0 hval0
  refine (threeTrue_walk a0 a1 a2 len0 len1 len2 cap0 cap1 cap2 l0 l1 l2 a3 W hrd0 hrd1 hrd2 (by unfold maxLen at hm0; omega) (by unfold maxLen at hm1; omega) (by unfold maxLen at hm2; omega) hnil0 hnil1 hnil2 (bounds_i64 w3).1 (bounds_i64 w3).2).mono fun e W' ⟨he, bel⟩ => ?_
  subst he
  exact ⟨_, rfl, _, _, _, [], _, [], hW', trodAll_mk1 (shut_bool Try.underlying4 _), (trodAll_cons_mk (Below.trod laidTry (by kernel_rfl) (of_decide_eq_true (by kernel_rfl)) k0 bel lt0) (trodAll_cons_mk (Below.trod laidTry (by kernel_rfl) (of_decide_eq_true (by kernel_rfl)) k1 bel lt1) (trodAll_cons_mk (Below.trod laidTry (by kernel_rfl) (of_decide_eq_true (by kernel_rfl)) k2 bel lt2) (trodAll_cons_mk (shut_int Try.underlying3 w3) trodAll_mk0)))), rfl, bel.frame _, fun h => by cases h⟩

theorem threeTrue_holds : Rows.ThreeTrueSaid :=
  OpenClaim.holds_of_wide 6 Try.f6 rfl rfl rfl rfl rfl rfl rfl ⟨rfl, rfl, rfl, rfl, rfl⟩ rfl rfl rfl rfl rfl (by kernel_rfl) Try.func6 (by kernel_rfl)
    (of_decide_eq_true (by kernel_rfl)) (by unfold Func.isWrapper; first | (rw [if_pos (by decide +kernel)]; kernel_rfl) | (rw [if_neg (by decide +kernel)]; exact ⟨rfl, rfl⟩))
    (fun os started H enc _ => threeTrue_lifted os started H enc)
#print axioms threeTrue_holds
end Go.Proofs.Ytcgpgflnihjpiad
