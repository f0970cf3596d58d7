/- diff.Back, SameChanges, what must be in any case of differences. -/
import Derived.Test.YtoeipmoonmgajacDiff2
import Derived.Test.YtoeipmoonmgajacPatch2
import Derived.Test.YtoeipmoonmgajacFew
import Derived.Test.YtoeipmoonmgajacSame
namespace Go.Proofs.Ytoeipmoonmgajac
namespace M
def swapC (c : Chg) : Chg := (c.1, c.2.2, c.2.1)
def backE (d : List Chg) : Int := if fine d = true then 0 else 1
def backV (d : List Chg) : List Chg := if fine d = true then d.map swapC else []
theorem map_take (d : List Chg) (k : Nat) (h : k < d.length) : (d.take (k + 1)).map swapC = (d.take k).map swapC ++ [swapC (d.getD k (0, 0, 0))] := by
  rw [List.take_succ_eq_append_getElem h, List.map_append]
  simp [List.getD, h]
end M
open Go.RowKit Go.Maps

def HandsC (w w' : World) (L : List M.Chg) (E : Int) (e : Ending) : Prop := ∃ a n cap, e = .returned (.tuple #[.slice a n cap, .int .i64 E]) ∧ Rc w' a n L ∧ n ≤ cap ∧ cap ≤ maxLen ∧ Below w.heap.size w w'
theorem HandsC.err {w w' : World} (E : Int) (hb : Below w.heap.size w w') : HandsC w w' [] E (.returned (.tuple #[.slice none 0 0, .int .i64 E])) := ⟨none, 0, 0, rfl, ⟨rfl, Or.inl rfl⟩, Nat.le_refl _, by simp [maxLen], hb⟩

set_option maxHeartbeats 4000000 in
theorem back_any (a : Option Addr) (n cap : Nat) (d : List M.Chg) (w : World) (h : Rc w a n d) (hm : n ≤ 9223372036854775807) :
    Calls Try.prog 24 #[.slice a n cap] w fun e w' => HandsC w w' (M.backV d) (M.backE d) e := by
  have K := dright_any a n cap d w h hm
  by_cases hf : M.fine d = true
  · have e1 : M.backE d = 0 := by unfold M.backE; rw [if_pos hf]
    have e2 : M.backV d = d.map M.swapC := by unfold M.backV; rw [if_pos hf]
    rw [e1, e2]
    rw [hf] at K
    have KK : Hid (Calls Try.prog 49 #[.slice a n cap] w fun e w' => e = .returned (.bool true) ∧ Below w.heap.size w w') := K
    have hn100 : n ≤ 100 := by have := ((M.fine_iff d).1 hf).len (by omega); have h1 := h.1; omega
    have HR : Aside (Rc w a n d) := h
    clear K h hf e1 e2
    go_enter Try.func24, Try.ntmps24
    go_wp2_with fail
    refine KK.out.mono ?_
    rintro e w1 ⟨rfl, hb1⟩
    have HR1 : Aside (Rc w1 a n d) := HR.out.below hb1 (Nat.le_refl _)
    have hs1 := hb1.size
    clear KK HR
    go_wp2
    go_loopg [4, 12] n (fun g v ix wr => ∃ i : Nat, i + g = n ∧ ix = .int .i64 i ∧ Aside (OwnC wr w1.heap.size v ((d.take i).map M.swapC)) ∧ Below w1.heap.size w1 wr)
    case atStart => exact ⟨0, by omega, rfl, OwnC.nil _ _, Below.refl _ _⟩
    case round =>
      obtain ⟨i, hig, rfl, HO, hbel⟩ := hrel
      have hsz := hbel.size
      by_cases hlt : i < n
      · have hii : (i : Int) < (n : Int) := by omega
        obtain ⟨b, off, rfl, hB, hc⟩ : ∃ b off, a = some ⟨b, off, none⟩ ∧ b < w1.heap.size ∧ ∀ i, i < n → w1.cell? ⟨b, off + i * 3, none⟩ = some (.int .i64 (d.getD i (0, 0, 0)).1) ∧ w1.cell? ⟨b, off + i * 3 + 1, none⟩ = some (.int .i64 (d.getD i (0, 0, 0)).2.1) ∧ w1.cell? ⟨b, off + i * 3 + 2, none⟩ = some (.int .i64 (d.getD i (0, 0, 0)).2.2) := by
          rcases HR1.out.cases with ⟨h0, _⟩ | ⟨b, off, e, _, _, hB, hc⟩
          · omega
          · exact ⟨b, off, e, hB, hc⟩
        obtain ⟨x, y, z, hxyz⟩ : ∃ x y z, d.getD i (0, 0, 0) = (x, y, z) := ⟨_, _, _, rfl⟩
        obtain ⟨k1, k2, k3⟩ := hc i hlt
        rw [hxyz] at k1 k2 k3
        have p0 : wr.cell? ⟨b, off + i * 3, none⟩ = some (.int .i64 x) := (hbel.cell (p := ⟨b, off + i * 3, none⟩) hB).trans k1
        have p1 : wr.cell? ⟨b, off + i * 3 + 1, none⟩ = some (.int .i64 y) := (hbel.cell (p := ⟨b, off + i * 3 + 1, none⟩) hB).trans k2
        have p2 : wr.cell? ⟨b, off + i * 3 + 2, none⟩ = some (.int .i64 z) := (hbel.cell (p := ⟨b, off + i * 3 + 2, none⟩) hB).trans k3
        have HMt : Aside ((d.take (i + 1)).map M.swapC = (d.take i).map M.swapC ++ [(x, z, y)]) := by unfold Aside; rw [M.map_take d i (by rw [HR1.out.1]; exact hlt), hxyz]; rfl
        have HLe : Aside (((d.take i).map M.swapC).length + 1 ≤ 1000000) := by unfold Aside; rw [List.length_map, List.length_take]; omega
        obtain ⟨Wb, hWb⟩ : ∃ Wb, Wb = (wr.alloc (.cells #[.int .i64 x, .int .i64 y, .int .i64 z] 50)).alloc (.cells #[.int .i64 x, .int .i64 z, .int .i64 y] 50) := ⟨_, rfl⟩
        have hbb : Below wr.heap.size wr Wb := by rw [hWb]; exact ((Below.refl _ _).alloc (Nat.le_refl _) _).alloc (by simp) _
        have HOb : Aside (OwnC Wb w1.heap.size u4 ((d.take i).map M.swapC)) := HO.out.below hbb
        have hbw : Below w1.heap.size w1 Wb := hbel.trans (hbb.mono hsz)
        have HCb : Hid (∀ j, j < 1 → Wb.cell? ⟨wr.heap.size + 1, 0 + j * 3, none⟩ = some (.int .i64 (([(x, z, y)] : List M.Chg).getD j (0, 0, 0)).1) ∧ Wb.cell? ⟨wr.heap.size + 1, 0 + j * 3 + 1, none⟩ = some (.int .i64 (([(x, z, y)] : List M.Chg).getD j (0, 0, 0)).2.1) ∧ Wb.cell? ⟨wr.heap.size + 1, 0 + j * 3 + 2, none⟩ = some (.int .i64 (([(x, z, y)] : List M.Chg).getD j (0, 0, 0)).2.2)) := by rw [hWb, show wr.heap.size + 1 = (wr.alloc (.cells #[.int .i64 x, .int .i64 y, .int .i64 z] 50)).heap.size by simp]; exact rc_one _ _ _ _
        have HWb : Hid (Wb = (wr.alloc (.cells #[.int .i64 x, .int .i64 y, .int .i64 z] 50)).alloc (.cells #[.int .i64 x, .int .i64 z, .int .i64 y] 50)) := hWb
        clear hc hxyz k1 k2 k3 hWb hbb HO
        go_wp2_with (at_builtin; rw [← HWb.out]; refine append_rc rfl _ _ rfl w1.heap.size _ ((d.take i).map M.swapC) rfl HOb.out (wr.heap.size + 1) 1 1 [(x, z, y)] rfl rfl HCb.out HLe.out (by have := hbw.size; omega) ?_)
        intro v' w2 ho' hb3 _
        have HO2 : Aside (OwnC w2 w1.heap.size v' ((d.take (i + 1)).map M.swapC)) := by unfold Aside; rw [HMt.out]; simpa [List.map_take] using ho'
        have hb4 : Below w1.heap.size w1 w2 := hbw.trans hb3
        clear ho' hb3
        go_wp2
        go_roundg (gk - 1)
        case measure => omega
        case rel => exact ⟨i + 1, by omega, by go_num, HO2, hb4⟩
      · have e1 : d.take i = d := List.take_of_length_le (by rw [HR1.out.1]; omega)
        have HO2 : Aside (OwnC wr w1.heap.size u4 (d.map M.swapC)) := by have h := HO.out; rw [e1] at h; exact h
        obtain ⟨va, vc, hv, hr, hl, hm2⟩ := HO2.out.rc
        have HV : Hid (u4 = .slice va (d.map M.swapC).length vc) := hv
        have HVr : Hid (Rc wr va (d.map M.swapC).length (d.map M.swapC)) := hr
        clear e1 hv hr
        go_wp2
        go_ret2
        rw [HV.out]
        exact ⟨va, _, vc, rfl, HVr.out, hl, hm2, hb1.trans (hbel.mono hs1)⟩
  · have e1 : M.backE d = 1 := by unfold M.backE; rw [if_neg hf]
    have e2 : M.backV d = [] := by unfold M.backV; rw [if_neg hf]
    rw [e1, e2]
    have hf2 : M.fine d = false := by simpa using hf
    rw [hf2] at K
    have KK : Hid (Calls Try.prog 49 #[.slice a n cap] w fun e w' => e = .returned (.bool false) ∧ Below w.heap.size w w') := K
    clear K h hf e1 e2 hf2
    go_enter Try.func24, Try.ntmps24
    go_wp2_with fail
    refine KK.out.mono ?_
    rintro e w1 ⟨rfl, hb1⟩
    go_wp2
    go_ret2
    exact HandsC.err 1 hb1

/-! ### SameChanges -/
theorem csame_len (a a2 : Option Addr) (n n2 cap cap2 : Nat) (w : World) (h : n ≠ n2) :
    Calls Try.prog 22 #[.slice a n cap, .slice a2 n2 cap2] w fun e w' => e = .returned (.bool false) ∧ w' = w := by
  have hb : ((n : Int) != (n2 : Int)) = true := by simp; omega
  go_enter Try.func22, Try.ntmps22
  go_wp2
  go_ret
  exact ⟨rfl, rfl⟩
theorem csame_none (a a2 : Option Addr) (cap cap2 : Nat) (w : World) :
    Calls Try.prog 22 #[.slice a 0 cap, .slice a2 0 cap2] w fun e w' => e = .returned (.bool true) ∧ w' = w := by
  go_enter Try.func22, Try.ntmps22
  go_wp2
  refine wp_loop_rounds 1 ?_
  rw [rounds_succ]
  go_wp2
  go_ret
  exact ⟨rfl, rfl⟩
set_option maxHeartbeats 4000000 in
theorem csame_some (b off b2 off2 n cap cap2 : Nat) (l l2 : List M.Chg) (w : World) (hm : n ≤ 9223372036854775807) (hl : l.length = n) (hl2 : l2.length = n)
    (hc : ∀ i, i < n → w.cell? ⟨b, off + i * 3, none⟩ = some (.int .i64 (l.getD i (0, 0, 0)).1) ∧ w.cell? ⟨b, off + i * 3 + 1, none⟩ = some (.int .i64 (l.getD i (0, 0, 0)).2.1) ∧ w.cell? ⟨b, off + i * 3 + 2, none⟩ = some (.int .i64 (l.getD i (0, 0, 0)).2.2))
    (hc2 : ∀ i, i < n → w.cell? ⟨b2, off2 + i * 3, none⟩ = some (.int .i64 (l2.getD i (0, 0, 0)).1) ∧ w.cell? ⟨b2, off2 + i * 3 + 1, none⟩ = some (.int .i64 (l2.getD i (0, 0, 0)).2.1) ∧ w.cell? ⟨b2, off2 + i * 3 + 2, none⟩ = some (.int .i64 (l2.getD i (0, 0, 0)).2.2)) :
    Calls Try.prog 22 #[.slice (some ⟨b, off, none⟩) n cap, .slice (some ⟨b2, off2, none⟩) n cap2] w fun e w' => e = .returned (.bool (decide (l = l2))) ∧ ∃ m, w' = w.drewN m := by
  have HC : Aside (∀ i, i < n → w.cell? ⟨b, off + i * 3, none⟩ = some (.int .i64 (l.getD i (0, 0, 0)).1) ∧ w.cell? ⟨b, off + i * 3 + 1, none⟩ = some (.int .i64 (l.getD i (0, 0, 0)).2.1) ∧ w.cell? ⟨b, off + i * 3 + 2, none⟩ = some (.int .i64 (l.getD i (0, 0, 0)).2.2)) := hc
  have HC2 : Aside (∀ i, i < n → w.cell? ⟨b2, off2 + i * 3, none⟩ = some (.int .i64 (l2.getD i (0, 0, 0)).1) ∧ w.cell? ⟨b2, off2 + i * 3 + 1, none⟩ = some (.int .i64 (l2.getD i (0, 0, 0)).2.1) ∧ w.cell? ⟨b2, off2 + i * 3 + 2, none⟩ = some (.int .i64 (l2.getD i (0, 0, 0)).2.2)) := hc2
  have HL : Aside (l.length = n) := hl
  have HL2 : Aside (l2.length = n) := hl2
  clear hc hl hc2 hl2
  go_enter Try.func22, Try.ntmps22
  go_wp2
  go_loopg [5] n (fun g i wr => ∃ k m : Nat, k + g = n ∧ i = .int .i64 k ∧ wr = w.drewN m ∧ Aside (l.drop k = l2.drop k ↔ l = l2))
  case atStart => exact ⟨0, 0, by omega, rfl, rfl, by simp [Aside]⟩
  case round =>
    obtain ⟨k, m, hk, rfl, rfl, A⟩ := hrel
    by_cases hlt : k < n
    · obtain ⟨x, y, z, hx⟩ : ∃ x y z, l.getD k (0, 0, 0) = (x, y, z) := ⟨_, _, _, rfl⟩
      obtain ⟨x2, y2, z2, hx2⟩ : ∃ x y z, l2.getD k (0, 0, 0) = (x, y, z) := ⟨_, _, _, rfl⟩
      obtain ⟨c0, c1, c2⟩ := HC.out k hlt
      obtain ⟨d0, d1, d2⟩ := HC2.out k hlt
      rw [hx] at c0 c1 c2
      rw [hx2] at d0 d1 d2
      have ed : (l.drop k = l2.drop k) ↔ (x, y, z) = (x2, y2, z2) ∧ l.drop (k + 1) = l2.drop (k + 1) := by
        rw [M.gdrop l k (by rw [HL.out]; exact hlt), M.gdrop l2 k (by rw [HL2.out]; exact hlt), List.cons.injEq, hx, hx2]
      rw [A.out] at ed
      have ED : Aside (l = l2 ↔ (x, y, z) = (x2, y2, z2) ∧ l.drop (k + 1) = l2.drop (k + 1)) := ed
      have hki : (k : Int) < (n : Int) := by omega
      clear hx hx2 ed A
      by_cases e0 : x = x2
      · have f0 : (x == x2) = true := by simp [e0]
        by_cases e1 : y = y2
        · have f1 : (y == y2) = true := by simp [e1]
          by_cases e2 : z = z2
          · have f2 : (z == z2) = true := by simp [e2]
            have A1 : Aside (l.drop (k + 1) = l2.drop (k + 1) ↔ l = l2) := by unfold Aside; rw [ED.out]; simp [e0, e1, e2]
            clear e0 e1 e2
            go_wp2_with fail
            go_quiet (fail)
            go_wp2
            go_roundg (gk - 1)
            case measure => omega
            case rel => exact ⟨k + 1, m + nq, by omega, by go_num, rfl, A1⟩
          · have f2 : (z == z2) = false := by simp [e2]
            have A1 : Aside (l ≠ l2) := by unfold Aside; intro e; have h := (ED.out.1 e).1; simp [e2] at h
            clear e0 e1 e2
            go_wp2_with fail
            go_quiet (fail)
            go_wp2
            go_ret
            exact ⟨ret_no A1.out, m + nq, World.drewN_drewN _ _ _⟩
        · have f1 : (y == y2) = false := by simp [e1]
          have A1 : Aside (l ≠ l2) := by unfold Aside; intro e; have h := (ED.out.1 e).1; simp [e1] at h
          clear e0 e1
          go_wp2_with fail
          go_quiet (fail)
          go_wp2
          go_ret
          exact ⟨ret_no A1.out, m + nq, World.drewN_drewN _ _ _⟩
      · have f0 : (x == x2) = false := by simp [e0]
        have A1 : Aside (l ≠ l2) := by unfold Aside; intro e; have h := (ED.out.1 e).1; simp [e0] at h
        clear e0
        go_wp2_with fail
        go_quiet (fail)
        go_wp2
        go_ret
        exact ⟨ret_no A1.out, m + nq, World.drewN_drewN _ _ _⟩
    · go_wp2
      go_ret
      exact ⟨ret_yes (A.out.1 (by rw [List.drop_eq_nil_of_le (by rw [HL.out]; omega), List.drop_eq_nil_of_le (by rw [HL2.out]; omega)])), m, rfl⟩
theorem csame_any (a a2 : Option Addr) (n n2 cap cap2 : Nat) (l l2 : List M.Chg) (w : World) (h : Rc w a n l) (h2 : Rc w a2 n2 l2) (hm : n ≤ 9223372036854775807) :
    Calls Try.prog 22 #[.slice a n cap, .slice a2 n2 cap2] w fun e w' => e = .returned (.bool (decide (l = l2))) ∧ Below w.heap.size w w' := by
  by_cases hn : n = n2
  · subst hn
    rcases h.cases with ⟨rfl, rfl⟩ | ⟨b, off, rfl, hn, hl, hB, hc⟩
    · have e2 : l2 = [] := List.eq_nil_of_length_eq_zero h2.1
      subst e2
      refine (csame_none a a2 cap cap2 w).mono ?_
      rintro e w' ⟨rfl, rfl⟩
      exact ⟨rfl, Below.refl _ _⟩
    · rcases h2.cases with ⟨rfl, rfl⟩ | ⟨b2, off2, rfl, hn2, hl2, hB2, hc2⟩
      · omega
      · refine (csame_some b off b2 off2 n cap cap2 l l2 w hm hl hl2 hc hc2).mono ?_
        rintro e w' ⟨rfl, m, rfl⟩
        exact ⟨rfl, drewN_below w m⟩
  · refine (csame_len a a2 n n2 cap cap2 w hn).mono ?_
    rintro e w' ⟨rfl, rfl⟩
    exact ⟨ret_no (fun e => hn (by rw [← h.1, ← h2.1, e])), Below.refl _ _⟩

/-! ### diff.Of, whatever it is handed -/
def difE (T U : List (List (List (Int × Int)))) : Int := if treeE T ≠ 0 then treeE T else treeE U
def difV (T U : List (List (List (Int × Int)))) : List M.Chg := if difE T U = 0 then M.dif (flat T) (flat U) else []
theorem dof_any (a1 a2 : Option Addr) (n1 n2 c1 c2 : Nat) (T U : List (List (List (Int × Int)))) (w : World) (h1 : TvS w a1 n1 c1 T) (t1 : Big T) (h2 : TvS w a2 n2 c2 U) (t2 : Big U) :
    Calls Try.prog 19 #[.slice a1 n1 c1, .slice a2 n2 c2] w fun e w' => HandsC w w' (difV T U) (difE T U) e := by
  by_cases z1 : treeE T = 0
  · by_cases z2 : treeE U = 0
    · have e0 : difE T U = 0 := by unfold difE; rw [if_neg (by omega)]; exact z2
      unfold difV
      rw [e0, if_pos rfl]
      refine (dof_good a1 a2 n1 n2 c1 c2 T U w h1 t1 h2 t2 z1 z2).mono ?_
      rintro e w' ⟨v, rfl, ho, hb⟩
      obtain ⟨va, vc, rfl, hr, hl, hm⟩ := ho.rc
      exact ⟨va, _, vc, rfl, hr, hl, hm, hb⟩
    · have e0 : difE T U = treeE U := by unfold difE; rw [if_neg (by omega)]
      unfold difV
      rw [e0, if_neg z2]
      refine (dof_bad2 a1 a2 n1 n2 c1 c2 T U w h1 t1 h2 t2 z1 z2).mono ?_
      rintro e w' ⟨rfl, hb⟩
      exact HandsC.err _ hb
  · have e0 : difE T U = treeE T := by unfold difE; rw [if_pos z1]
    unfold difV
    rw [e0, if_neg z1]
    refine (dof_bad1 a1 a2 n1 n2 c1 c2 T w h1 t1 z1).mono ?_
    rintro e w' ⟨rfl, hb⟩
    exact HandsC.err _ hb
/-- What is built, and that it is right. -/
theorem built (a : Option Addr) (n cap : Nat) (l : List (Int × Int)) (w : World) (h : Sl w a n cap l) (h0 : M.chk l = 0) :
    Calls Try.prog 15 #[.slice a n cap] w fun e w' => ∃ ta tn tc, e = .returned (.tuple #[.slice ta tn tc, .int .i64 0]) ∧ TvS w' ta tn tc (M.build l) ∧ Below w.heap.size w w' := by
  refine (build_any a n cap l w h).mono ?_
  rintro e w' ⟨v, rfl, ho, hb⟩
  rw [if_pos h0] at ho
  obtain ⟨ta, tn, tc, rfl, ht⟩ := ho.tv
  rw [h0]
  exact ⟨ta, tn, tc, rfl, ht, hb⟩
theorem difV_built {l m : List (Int × Int)} (h1 : M.chk l = 0) (h2 : M.chk m = 0) : difE (M.build l) (M.build m) = 0 ∧ difV (M.build l) (M.build m) = M.dif l m := by
  have e0 : difE (M.build l) (M.build m) = 0 := by unfold difE; rw [build_tree l h1, build_tree m h2]; simp
  refine ⟨e0, ?_⟩
  unfold difV
  rw [if_pos e0, (build_like l h1).1, (build_like m h2).1]
end Go.Proofs.Ytoeipmoonmgajac
