/- tree.Check, tree.Rows, tree.Root. -/
import Derived.Test.YtcgpgflnihjpiacLeaves
namespace Go.Proofs.Ytcgpgflnihjpiac
open Go.RowKit

def flat (T : List (List (List (Int × Int)))) : List (Int × Int) := (ground T).flatten
/-- Is T what is built of its rows? -/
def treeE (T : List (List (List (Int × Int)))) : Int := if M.chk (flat T) = 0 ∧ T = M.build (flat T) then 0 else 1
def Big (T : List (List (List (Int × Int)))) : Prop := ∀ c ∈ ground T, c.length ≤ 1048576

theorem Own.sl {w : World} {base : Nat} {v : Value} {l : List (Int × Int)} (h : Own w base v l) : ∃ a cap, v = .slice a l.length cap ∧ Sl w a l.length cap l := by
  obtain ⟨a, cap, h1, h2, h3, h4, h5⟩ := h.rd
  exact ⟨a, cap, h1, h2, h3, h4, h5⟩

theorem ground_few (a : Option Addr) (n cap : Nat) (T : List (List (List (Int × Int)))) (w : World) (hT : TvS w a n cap T) (hbig : Big T) (h : (flat T).length ≤ 40) :
    Calls Try.prog 42 #[.slice a n cap] w fun e w' => ∃ va vc, e = .returned (.tuple #[.slice va (flat T).length vc, .bool true]) ∧ Own w' w.heap.size (.slice va (flat T).length vc) (flat T) ∧ Sl w' va (flat T).length vc (flat T) ∧ Below w.heap.size w w' := by
  refine (ground_any a n cap T w hT hbig).mono ?_
  rintro e w' ⟨v, rfl, ho, hb⟩
  have h' : (ground T).flatten.length ≤ 40 := h
  rw [if_pos h'] at ho
  rw [decide_eq_true h']
  obtain ⟨va, vc, rfl, hs⟩ := Own.sl ho
  exact ⟨va, vc, rfl, ho, hs, hb⟩
theorem ground_many (a : Option Addr) (n cap : Nat) (T : List (List (List (Int × Int)))) (w : World) (hT : TvS w a n cap T) (hbig : Big T) (h : ¬ (flat T).length ≤ 40) :
    Calls Try.prog 42 #[.slice a n cap] w fun e w' => ∃ v, e = .returned (.tuple #[v, .bool false]) ∧ Below w.heap.size w w' := by
  refine (ground_any a n cap T w hT hbig).mono ?_
  rintro e w' ⟨v, rfl, ho, hb⟩
  rw [decide_eq_false (show ¬ (ground T).flatten.length ≤ 40 from h)]
  exact ⟨_, rfl, hb⟩

set_option maxHeartbeats 2000000 in
theorem tcheck_any (a : Option Addr) (n cap : Nat) (T : List (List (List (Int × Int)))) (w : World) (hT : TvS w a n cap T) (hbig : Big T) :
    Calls Try.prog 17 #[.slice a n cap] w fun e w' => e = .returned (.int .i64 (treeE T)) ∧ Below w.heap.size w w' := by
  by_cases h40 : (flat T).length ≤ 40
  · have HG : Aside (Calls Try.prog 42 #[.slice a n cap] w fun e w' => ∃ va vc, e = .returned (.tuple #[.slice va (flat T).length vc, .bool true]) ∧ Own w' w.heap.size (.slice va (flat T).length vc) (flat T) ∧ Sl w' va (flat T).length vc (flat T) ∧ Below w.heap.size w w') := ground_few a n cap T w hT hbig h40
    have HT : Aside (TvS w a n cap T) := hT
    obtain ⟨l, hl⟩ : ∃ l, l = flat T := ⟨_, rfl⟩
    obtain ⟨L, hL⟩ : ∃ L, L = l.length := ⟨_, rfl⟩
    rw [← hl, ← hL] at HG
    by_cases h0 : M.chk l = 0
    · obtain ⟨t, ht⟩ : ∃ t, t = decide (T = M.build l) := ⟨_, rfl⟩
      have HB : Aside (∀ (va : Option Addr) (vc : Nat) (W : World), Sl W va L vc l → Below w.heap.size w W → Calls Try.prog 15 #[.slice va L vc] W fun e w' => ∃ ba bn bc, e = .returned (.tuple #[.slice ba bn bc, .int .i64 0]) ∧ Aside (Calls Try.prog 43 #[.slice a n cap, .slice ba bn bc] w' fun e w'' => e = .returned (.bool t) ∧ Below w'.heap.size w' w'') ∧ Below W.heap.size W w') := by
        intro va vc W hs hb
        refine (build_any va L vc l W hs).mono ?_
        rintro e w' ⟨v, rfl, ho, hb2⟩
        rw [if_pos h0] at ho
        rw [h0]
        obtain ⟨ba, bn, bc, rfl, htv⟩ := ho.tv
        refine ⟨ba, bn, bc, rfl, ?_, hb2⟩
        rw [ht]
        exact treeSame_any a ba n bn cap bc T (M.build l) w' ((HT.out.below (below2 hb hb2)).1) htv.1 HT.out.len
      have HE : Aside (treeE T = if t = true then 0 else 1) := by
        unfold Aside treeE
        rw [← hl, ht]
        by_cases hh : T = M.build l <;> simp [h0, hh]
      clear h0 hl hL ht hT h40
      cases t with
      | true =>
        have HE1 : Aside (treeE T = 0) := by unfold Aside; rw [HE.out]; simp
        go_enter Try.func17, Try.ntmps17
        go_wp2_with fail
        refine HG.out.mono ?_
        rintro e w1 ⟨va, vc, rfl, ho, hs, b1⟩
        have HS : Aside (Sl w1 va L vc l) := hs
        clear ho hs
        go_wp2_with fail
        refine (HB.out va vc w1 HS.out b1).mono ?_
        rintro e w2 ⟨ba, bn, bc, rfl, HSame, b2⟩
        go_wp2_with fail
        refine HSame.out.mono ?_
        rintro e w3 ⟨rfl, b3⟩
        go_wp2
        go_ret
        exact ⟨by rw [HE1.out]; rfl, below2 (below2 b1 b2) b3⟩
      | false =>
        have HE1 : Aside (treeE T = 1) := by unfold Aside; rw [HE.out]; simp
        go_enter Try.func17, Try.ntmps17
        go_wp2_with fail
        refine HG.out.mono ?_
        rintro e w1 ⟨va, vc, rfl, ho, hs, b1⟩
        have HS : Aside (Sl w1 va L vc l) := hs
        clear ho hs
        go_wp2_with fail
        refine (HB.out va vc w1 HS.out b1).mono ?_
        rintro e w2 ⟨ba, bn, bc, rfl, HSame, b2⟩
        go_wp2_with fail
        refine HSame.out.mono ?_
        rintro e w3 ⟨rfl, b3⟩
        go_wp2
        go_ret
        exact ⟨by rw [HE1.out]; rfl, below2 (below2 b1 b2) b3⟩
    · have HE : Aside (treeE T = 1) := by unfold Aside treeE; rw [← hl, if_neg (fun h => h0 h.1)]
      obtain ⟨c, hc⟩ : ∃ c, c = M.chk l := ⟨_, rfl⟩
      have HB : Aside (∀ (va : Option Addr) (vc : Nat) (W : World), Sl W va L vc l → Calls Try.prog 15 #[.slice va L vc] W fun e w' => ∃ v, e = .returned (.tuple #[v, .int .i64 c]) ∧ Below W.heap.size W w') := by
        intro va vc W hs
        refine (build_any va L vc l W hs).mono ?_
        rintro e w' ⟨v, rfl, _, hb2⟩
        exact ⟨v, by rw [hc], hb2⟩
      have hcb : (c != 0) = true := by rw [hc]; simp [h0]
      clear h0 hl hL hT h40 hc
      go_enter Try.func17, Try.ntmps17
      go_wp2_with fail
      refine HG.out.mono ?_
      rintro e w1 ⟨va, vc, rfl, ho, hs, b1⟩
      have HS : Aside (Sl w1 va L vc l) := hs
      clear ho hs
      go_wp2_with fail
      refine (HB.out va vc w1 HS.out).mono ?_
      rintro e w2 ⟨v, rfl, b2⟩
      go_wp2
      go_ret
      exact ⟨by rw [HE.out]; rfl, below2 b1 b2⟩
  · have HG : Aside (Calls Try.prog 42 #[.slice a n cap] w fun e w' => ∃ v, e = .returned (.tuple #[v, .bool false]) ∧ Below w.heap.size w w') := ground_many a n cap T w hT hbig h40
    have HE : Aside (treeE T = 1) := by
      unfold Aside treeE
      rw [if_neg (fun h => h40 ((M.chk_zero _).1 h.1).1)]
    clear h40 hT
    go_enter Try.func17, Try.ntmps17
    go_wp2_with fail
    refine HG.out.mono ?_
    rintro e w1 ⟨v, rfl, b1⟩
    go_wp2
    go_ret
    exact ⟨by rw [HE.out]; rfl, b1⟩

theorem treeE_ok {T : List (List (List (Int × Int)))} (h : treeE T = 0) : M.chk (flat T) = 0 ∧ T = M.build (flat T) := by
  unfold treeE at h
  by_cases hh : M.chk (flat T) = 0 ∧ T = M.build (flat T)
  · exact hh
  · rw [if_neg hh] at h; cases h
theorem treeE_or (T : List (List (List (Int × Int)))) : treeE T = 0 ∨ treeE T = 1 := by
  unfold treeE; split <;> simp

theorem getD_memT {α : Type} (l : List α) (d : α) (k : Nat) (h : k < l.length) : l.getD k d ∈ l := by rw [List.getD, List.getElem?_eq_getElem h]; simp
theorem take_snoc {α : Type} (l : List α) (d : α) (k : Nat) (h : k < l.length) : l.take (k + 1) = l.take k ++ [l.getD k d] := by
  rw [List.take_succ_eq_append_getElem h]; simp [List.getD, h]
end Go.Proofs.Ytcgpgflnihjpiac
