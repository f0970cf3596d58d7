/- SameChanges, what must be in any case of differences. -/
import Derived.Test.YtcgpgflnihjpiacDiff2
import Derived.Test.YtcgpgflnihjpiacDBack
import Derived.Test.YtcgpgflnihjpiacSame
namespace Go.Proofs.Ytcgpgflnihjpiac
open Go.RowKit Go.Maps

/-! ### SameChanges -/
theorem csame_len (a a2 : Option Addr) (n n2 cap cap2 : Nat) (w : World) (h : n ≠ n2) :
    Calls Try.prog 22 #[.slice a n cap, .slice a2 n2 cap2] w fun e w' => e = .returned (.bool false) ∧ w' = w := by
  have hb : ((n : Int) != (n2 : Int)) = true := by simp; omega
  go_enter Try.func22, Try.ntmps22
  go_wp2
  go_ret
  exact ⟨rfl, rfl⟩
theorem csame_none (a a2 : Option Addr) (cap cap2 : Nat) (w : World) :
    Calls Try.prog 22 #[.slice a 0 cap, .slice a2 0 cap2] w fun e w' => e = .returned (.bool true) ∧ w' = w := by
  go_enter Try.func22, Try.ntmps22
  go_wp2
  refine wp_loop_rounds 1 ?_
  rw [rounds_succ]
  go_wp2
  go_ret
  exact ⟨rfl, rfl⟩
set_option maxHeartbeats 4000000 in
theorem csame_some (b off b2 off2 n cap cap2 : Nat) (l l2 : List M.Chg) (w : World) (hm : n ≤ 9223372036854775807) (hl : l.length = n) (hl2 : l2.length = n)
    (hc : ∀ i, i < n → w.cell? ⟨b, off + i * 3, none⟩ = some (.int .i64 (l.getD i (0, 0, 0)).1) ∧ w.cell? ⟨b, off + i * 3 + 1, none⟩ = some (.int .i64 (l.getD i (0, 0, 0)).2.1) ∧ w.cell? ⟨b, off + i * 3 + 2, none⟩ = some (.int .i64 (l.getD i (0, 0, 0)).2.2))
    (hc2 : ∀ i, i < n → w.cell? ⟨b2, off2 + i * 3, none⟩ = some (.int .i64 (l2.getD i (0, 0, 0)).1) ∧ w.cell? ⟨b2, off2 + i * 3 + 1, none⟩ = some (.int .i64 (l2.getD i (0, 0, 0)).2.1) ∧ w.cell? ⟨b2, off2 + i * 3 + 2, none⟩ = some (.int .i64 (l2.getD i (0, 0, 0)).2.2)) :
    Calls Try.prog 22 #[.slice (some ⟨b, off, none⟩) n cap, .slice (some ⟨b2, off2, none⟩) n cap2] w fun e w' => e = .returned (.bool (decide (l = l2))) ∧ ∃ m, w' = w.drewN m := by
  have HC : Aside (∀ i, i < n → w.cell? ⟨b, off + i * 3, none⟩ = some (.int .i64 (l.getD i (0, 0, 0)).1) ∧ w.cell? ⟨b, off + i * 3 + 1, none⟩ = some (.int .i64 (l.getD i (0, 0, 0)).2.1) ∧ w.cell? ⟨b, off + i * 3 + 2, none⟩ = some (.int .i64 (l.getD i (0, 0, 0)).2.2)) := hc
  have HC2 : Aside (∀ i, i < n → w.cell? ⟨b2, off2 + i * 3, none⟩ = some (.int .i64 (l2.getD i (0, 0, 0)).1) ∧ w.cell? ⟨b2, off2 + i * 3 + 1, none⟩ = some (.int .i64 (l2.getD i (0, 0, 0)).2.1) ∧ w.cell? ⟨b2, off2 + i * 3 + 2, none⟩ = some (.int .i64 (l2.getD i (0, 0, 0)).2.2)) := hc2
  have HL : Aside (l.length = n) := hl
  have HL2 : Aside (l2.length = n) := hl2
  clear hc hl hc2 hl2
  go_enter Try.func22, Try.ntmps22
  go_wp2
  go_loopg [5] n (fun g i wr => ∃ k m : Nat, k + g = n ∧ i = .int .i64 k ∧ wr = w.drewN m ∧ Aside (l.drop k = l2.drop k ↔ l = l2))
  case atStart => exact ⟨0, 0, by omega, rfl, rfl, by simp [Aside]⟩
  case round =>
    obtain ⟨k, m, hk, rfl, rfl, A⟩ := hrel
    by_cases hlt : k < n
    · obtain ⟨x, y, z, hx⟩ : ∃ x y z, l.getD k (0, 0, 0) = (x, y, z) := ⟨_, _, _, rfl⟩
      obtain ⟨x2, y2, z2, hx2⟩ : ∃ x y z, l2.getD k (0, 0, 0) = (x, y, z) := ⟨_, _, _, rfl⟩
      obtain ⟨c0, c1, c2⟩ := HC.out k hlt
      obtain ⟨d0, d1, d2⟩ := HC2.out k hlt
      rw [hx] at c0 c1 c2
      rw [hx2] at d0 d1 d2
      have ed : (l.drop k = l2.drop k) ↔ (x, y, z) = (x2, y2, z2) ∧ l.drop (k + 1) = l2.drop (k + 1) := by
        rw [M.gdrop l k (by rw [HL.out]; exact hlt), M.gdrop l2 k (by rw [HL2.out]; exact hlt), List.cons.injEq, hx, hx2]
      rw [A.out] at ed
      have ED : Aside (l = l2 ↔ (x, y, z) = (x2, y2, z2) ∧ l.drop (k + 1) = l2.drop (k + 1)) := ed
      have hki : (k : Int) < (n : Int) := by omega
      clear hx hx2 ed A
      by_cases e0 : x = x2
      · have f0 : (x == x2) = true := by simp [e0]
        by_cases e1 : y = y2
        · have f1 : (y == y2) = true := by simp [e1]
          by_cases e2 : z = z2
          · have f2 : (z == z2) = true := by simp [e2]
            have A1 : Aside (l.drop (k + 1) = l2.drop (k + 1) ↔ l = l2) := by unfold Aside; rw [ED.out]; simp [e0, e1, e2]
            clear e0 e1 e2
            go_wp2_with fail
            go_quiet (fail)
            go_wp2
            go_roundg (gk - 1)
            case measure => omega
            case rel => exact ⟨k + 1, m + nq, by omega, by go_num, rfl, A1⟩
          · have f2 : (z == z2) = false := by simp [e2]
            have A1 : Aside (l ≠ l2) := by unfold Aside; intro e; have h := (ED.out.1 e).1; simp [e2] at h
            clear e0 e1 e2
            go_wp2_with fail
            go_quiet (fail)
            go_wp2
            go_ret
            exact ⟨ret_no A1.out, m + nq, World.drewN_drewN _ _ _⟩
        · have f1 : (y == y2) = false := by simp [e1]
          have A1 : Aside (l ≠ l2) := by unfold Aside; intro e; have h := (ED.out.1 e).1; simp [e1] at h
          clear e0 e1
          go_wp2_with fail
          go_quiet (fail)
          go_wp2
          go_ret
          exact ⟨ret_no A1.out, m + nq, World.drewN_drewN _ _ _⟩
      · have f0 : (x == x2) = false := by simp [e0]
        have A1 : Aside (l ≠ l2) := by unfold Aside; intro e; have h := (ED.out.1 e).1; simp [e0] at h
        clear e0
        go_wp2_with fail
        go_quiet (fail)
        go_wp2
        go_ret
        exact ⟨ret_no A1.out, m + nq, World.drewN_drewN _ _ _⟩
    · go_wp2
      go_ret
      exact ⟨ret_yes (A.out.1 (by rw [List.drop_eq_nil_of_le (by rw [HL.out]; omega), List.drop_eq_nil_of_le (by rw [HL2.out]; omega)])), m, rfl⟩
theorem csame_any (a a2 : Option Addr) (n n2 cap cap2 : Nat) (l l2 : List M.Chg) (w : World) (h : Rc w a n l) (h2 : Rc w a2 n2 l2) (hm : n ≤ 9223372036854775807) :
    Calls Try.prog 22 #[.slice a n cap, .slice a2 n2 cap2] w fun e w' => e = .returned (.bool (decide (l = l2))) ∧ Below w.heap.size w w' := by
  by_cases hn : n = n2
  · subst hn
    rcases h.cases with ⟨rfl, rfl⟩ | ⟨b, off, rfl, hn, hl, hB, hc⟩
    · have e2 : l2 = [] := List.eq_nil_of_length_eq_zero h2.1
      subst e2
      refine (csame_none a a2 cap cap2 w).mono ?_
      rintro e w' ⟨rfl, rfl⟩
      exact ⟨rfl, Below.refl _ _⟩
    · rcases h2.cases with ⟨rfl, rfl⟩ | ⟨b2, off2, rfl, hn2, hl2, hB2, hc2⟩
      · omega
      · refine (csame_some b off b2 off2 n cap cap2 l l2 w hm hl hl2 hc hc2).mono ?_
        rintro e w' ⟨rfl, m, rfl⟩
        exact ⟨rfl, drewN_below w m⟩
  · refine (csame_len a a2 n n2 cap cap2 w hn).mono ?_
    rintro e w' ⟨rfl, rfl⟩
    exact ⟨ret_no (fun e => hn (by rw [← h.1, ← h2.1, e])), Below.refl _ _⟩

/-! ### diff.Of, whatever it is handed -/
def difE (T U : List (List (List (Int × Int)))) : Int := if treeE T ≠ 0 then treeE T else treeE U
def difV (T U : List (List (List (Int × Int)))) : List M.Chg := if difE T U = 0 then M.dif (flat T) (flat U) else []
theorem dof_any (a1 a2 : Option Addr) (n1 n2 c1 c2 : Nat) (T U : List (List (List (Int × Int)))) (w : World) (h1 : TvS w a1 n1 c1 T) (t1 : Big T) (h2 : TvS w a2 n2 c2 U) (t2 : Big U) :
    Calls Try.prog 19 #[.slice a1 n1 c1, .slice a2 n2 c2] w fun e w' => HandsC w w' (difV T U) (difE T U) e := by
  by_cases z1 : treeE T = 0
  · by_cases z2 : treeE U = 0
    · have e0 : difE T U = 0 := by unfold difE; rw [if_neg (by omega)]; exact z2
      unfold difV
      rw [e0, if_pos rfl]
      refine (dof_good a1 a2 n1 n2 c1 c2 T U w h1 t1 h2 t2 z1 z2).mono ?_
      rintro e w' ⟨v, rfl, ho, hb⟩
      obtain ⟨va, vc, rfl, hr, hl, hm⟩ := ho.rc
      exact ⟨va, _, vc, rfl, hr, hl, hm, hb⟩
    · have e0 : difE T U = treeE U := by unfold difE; rw [if_neg (by omega)]
      unfold difV
      rw [e0, if_neg z2]
      refine (dof_bad2 a1 a2 n1 n2 c1 c2 T U w h1 t1 h2 t2 z1 z2).mono ?_
      rintro e w' ⟨rfl, hb⟩
      exact HandsC.err _ hb
  · have e0 : difE T U = treeE T := by unfold difE; rw [if_pos z1]
    unfold difV
    rw [e0, if_neg z1]
    refine (dof_bad1 a1 a2 n1 n2 c1 c2 T w h1 t1 z1).mono ?_
    rintro e w' ⟨rfl, hb⟩
    exact HandsC.err _ hb
/-- What is built, and that it is right. -/
theorem built (a : Option Addr) (n cap : Nat) (l : List (Int × Int)) (w : World) (h : Sl w a n cap l) (h0 : M.chk l = 0) :
    Calls Try.prog 15 #[.slice a n cap] w fun e w' => ∃ ta tn tc, e = .returned (.tuple #[.slice ta tn tc, .int .i64 0]) ∧ TvS w' ta tn tc (M.build l) ∧ Below w.heap.size w w' := by
  refine (build_any a n cap l w h).mono ?_
  rintro e w' ⟨v, rfl, ho, hb⟩
  rw [if_pos h0] at ho
  obtain ⟨ta, tn, tc, rfl, ht⟩ := ho.tv
  rw [h0]
  exact ⟨ta, tn, tc, rfl, ht, hb⟩
theorem difV_built {l m : List (Int × Int)} (h1 : M.chk l = 0) (h2 : M.chk m = 0) : difE (M.build l) (M.build m) = 0 ∧ difV (M.build l) (M.build m) = M.dif l m := by
  have e0 : difE (M.build l) (M.build m) = 0 := by unfold difE; rw [build_tree l h1, build_tree m h2]; simp
  refine ⟨e0, ?_⟩
  unfold difV
  rw [if_pos e0, (build_like l h1).1, (build_like m h2).1]
end Go.Proofs.Ytcgpgflnihjpiac
