/- Level. -/
import Derived.Test.YtcgpgflnihjpiagGreatBRestRepos15
import Derived.Shelf.Abstract
import Derived.Deep.RegionHeld3
import Derived.Deep.AppendLies
namespace Go.Proofs.YtcgpgflnihjpiagGreat
open Go.RowKit
theorem lsame_len (a a2 : Option Addr) (n n2 cap cap2 : Nat) (w : World) (h : n ≠ n2) :
    Calls Tryz.prog 55 #[.slice a n cap, .slice a2 n2 cap2] w fun e w' => e = .returned (.bool false) ∧ w' = w := by
  have hb : ((n : Int) != (n2 : Int)) = true := by simp; omega
  go_enter Tryz.func55, Tryz.ntmps55
  go_wp2
  go_ret
  exact ⟨rfl, rfl⟩
theorem lsame_none (a a2 : Option Addr) (cap cap2 : Nat) (w : World) :
    Calls Tryz.prog 55 #[.slice a 0 cap, .slice a2 0 cap2] w fun e w' => e = .returned (.bool true) ∧ w' = w := by
  go_enter Tryz.func55, Tryz.ntmps55
  go_wp2
  refine wp_loop_rounds 1 ?_
  rw [rounds_succ]
  go_wp2
  go_ret
  exact ⟨rfl, rfl⟩
theorem drop_atL (l : List (List (Int × Int))) (k : Nat) (h : k < l.length) : l.drop k = l.getD k [] :: l.drop (k + 1) := by
  rw [List.drop_eq_getElem_cons h]; simp [List.getD, h]
theorem eq_dropL (l l2 : List (List (Int × Int))) (k : Nat) (h : k < l.length) (h2 : k < l2.length) : (l.drop k = l2.drop k) ↔ l.getD k [] = l2.getD k [] ∧ l.drop (k + 1) = l2.drop (k + 1) := by
  rw [drop_atL l k h, drop_atL l2 k h2, List.cons.injEq]
set_option maxHeartbeats 4000000 in
theorem lsame_some (b off b2 off2 n cap cap2 : Nat) (L L2 : List (List (Int × Int))) (w : World) (hm : n ≤ 9223372036854775807) (hl : L.length = n) (hl2 : L2.length = n) (hB : b < w.heap.size) (hB2 : b2 < w.heap.size)
    (hc : ∀ i, i < n → ∃ a' n' c', w.cell? ⟨b, off + i, none⟩ = some (.slice a' n' c') ∧ Sl w a' n' c' (L.getD i []))
    (hc2 : ∀ i, i < n → ∃ a' n' c', w.cell? ⟨b2, off2 + i, none⟩ = some (.slice a' n' c') ∧ Sl w a' n' c' (L2.getD i [])) :
    Calls Tryz.prog 55 #[.slice (some ⟨b, off, none⟩) n cap, .slice (some ⟨b2, off2, none⟩) n cap2] w fun e w' => e = .returned (.bool (decide (L = L2))) ∧ Below w.heap.size w w' := by
  have HC : Aside (∀ i, i < n → ∃ a' n' c', w.cell? ⟨b, off + i, none⟩ = some (.slice a' n' c') ∧ Sl w a' n' c' (L.getD i [])) := hc
  have HC2 : Aside (∀ i, i < n → ∃ a' n' c', w.cell? ⟨b2, off2 + i, none⟩ = some (.slice a' n' c') ∧ Sl w a' n' c' (L2.getD i [])) := hc2
  have HL : Aside (L.length = n) := hl
  have HL2 : Aside (L2.length = n) := hl2
  clear hc hl hc2 hl2
  go_enter Tryz.func55, Tryz.ntmps55
  go_wp2
  go_loopg [5] n (fun g i wr => ∃ k : Nat, k + g = n ∧ i = .int .i64 k ∧ Below w.heap.size w wr ∧ Aside (L.drop k = L2.drop k ↔ L = L2))
  case atStart => exact ⟨0, by omega, rfl, Below.refl _ _, by simp [Aside]⟩
  case round =>
    obtain ⟨k, hk, rfl, hbel, A⟩ := hrel
    by_cases hlt : k < n
    · obtain ⟨a1, n1, c1, q1, s1⟩ := HC.out k hlt
      obtain ⟨a2, n2, c2, q2, s2⟩ := HC2.out k hlt
      obtain ⟨x, hx⟩ : ∃ x, x = L.getD k [] := ⟨_, rfl⟩
      obtain ⟨y, hy⟩ : ∃ y, y = L2.getD k [] := ⟨_, rfl⟩
      have ed := eq_dropL L L2 k (by rw [HL.out]; exact hlt) (by rw [HL2.out]; exact hlt)
      rw [← hx, ← hy, A.out] at ed
      rw [← hx] at s1
      rw [← hy] at s2
      have ED : Aside (L = L2 ↔ x = y ∧ L.drop (k + 1) = L2.drop (k + 1)) := ed
      have S1 : Aside (∀ W, Later wr W → W.cell? ⟨b, off + k, none⟩ = some (.slice a1 n1 c1)) := fun W hW => (hW.out.cell (p := ⟨b, off + k, none⟩) (by show b < _; have := hbel.size; omega)).trans ((hbel.cell (p := ⟨b, off + k, none⟩) hB).trans q1)
      have S2 : Aside (∀ W, Later wr W → W.cell? ⟨b2, off2 + k, none⟩ = some (.slice a2 n2 c2)) := fun W hW => (hW.out.cell (p := ⟨b2, off2 + k, none⟩) (by show b2 < _; have := hbel.size; omega)).trans ((hbel.cell (p := ⟨b2, off2 + k, none⟩) hB2).trans q2)
      obtain ⟨t, ht⟩ : ∃ t, t = decide (x = y) := ⟨_, rfl⟩
      have HT : Aside (t = decide (x = y)) := ht
      have HS : Aside (∀ W, Later wr W → Calls Tryz.prog 21 #[.slice a1 n1 c1, .slice a2 n2 c2] W fun e w' => e = .returned (.bool t) ∧ Later wr w') := fun W hW => by
        rw [ht]
        refine (same_any a1 a2 n1 n2 c1 c2 x y W ((s1.1.below hbel (Nat.le_refl _)).below hW.out (Nat.le_refl _)) ((s2.1.below hbel (Nat.le_refl _)).below hW.out (Nat.le_refl _)) s1.len).mono ?_
        rintro e w' ⟨rfl, hb⟩
        exact ⟨rfl, hW.out.trans (hb.mono hW.out.size)⟩
      have hki : (k : Int) < (n : Int) := by omega
      clear q1 q2 s1 s2 ed hx hy ht
      cases t with
      | true =>
        go_wp2_with fail
        refine wp_region_later (W0 := wr) (by kernel_rfl) (by kernel_rfl) (Below.refl _ _) ?_
        go_big_quiet_want
        go_big_quiet_op
        go_big_quiet_on
        go_big_quiet_want
        go_big_quiet_op
        go_big_quiet_on
        go_big_quiet_want
        refine quiet_val (.pointer (some ⟨b, off + k, none⟩)) (fun W hW => by go_simp) ?_
        go_simp
        go_big_quiet_on
        go_big_quiet_want
        refine quiet_val (.slice a1 n1 c1) (fun W hW => by have h := S1.out W hW; go_simp) ?_
        go_simp
        go_big_quiet_on
        go_big_quiet_want
        go_big_quiet_op
        go_big_quiet_on
        go_big_quiet_want
        go_big_quiet_op
        go_big_quiet_on
        go_big_quiet_want
        refine quiet_val (.pointer (some ⟨b2, off2 + k, none⟩)) (fun W hW => by go_simp) ?_
        go_simp
        go_big_quiet_on
        go_big_quiet_want
        refine quiet_val (.slice a2 n2 c2) (fun W hW => by have h := S2.out W hW; go_simp) ?_
        go_simp
        go_big_quiet_on
        go_big_quiet_want
        refine quiet_enter 21 #[.slice a1 n1 c1, .slice a2 n2 c2] (.bool true) (fun W => by go_simp) (fun W hW => HS.out W hW) ?_
        go_simp
        go_big_quiet_on
        go_big_quiet_want
        refine quiet_val (.bool false) (fun W hW => by go_simp) ?_
        go_simp
        go_big_quiet_on
        refine wpQuiet_nil ?_
        intro w5 hL
        have q5 := hbel.trans (hL.out.mono hbel.size)
        have hxy : x = y := of_decide_eq_true HT.out.symm
        have A1 : Aside (L.drop (k + 1) = L2.drop (k + 1) ↔ L = L2) := by unfold Aside; rw [ED.out]; simp [hxy]
        clear hxy
        go_wp2
        go_roundg (gk - 1)
        case measure => omega
        case rel => exact ⟨k + 1, by omega, by go_num, q5, A1⟩
      | false =>
        go_wp2_with fail
        refine wp_region_later (W0 := wr) (by kernel_rfl) (by kernel_rfl) (Below.refl _ _) ?_
        go_big_quiet_want
        go_big_quiet_op
        go_big_quiet_on
        go_big_quiet_want
        go_big_quiet_op
        go_big_quiet_on
        go_big_quiet_want
        refine quiet_val (.pointer (some ⟨b, off + k, none⟩)) (fun W hW => by go_simp) ?_
        go_simp
        go_big_quiet_on
        go_big_quiet_want
        refine quiet_val (.slice a1 n1 c1) (fun W hW => by have h := S1.out W hW; go_simp) ?_
        go_simp
        go_big_quiet_on
        go_big_quiet_want
        go_big_quiet_op
        go_big_quiet_on
        go_big_quiet_want
        go_big_quiet_op
        go_big_quiet_on
        go_big_quiet_want
        refine quiet_val (.pointer (some ⟨b2, off2 + k, none⟩)) (fun W hW => by go_simp) ?_
        go_simp
        go_big_quiet_on
        go_big_quiet_want
        refine quiet_val (.slice a2 n2 c2) (fun W hW => by have h := S2.out W hW; go_simp) ?_
        go_simp
        go_big_quiet_on
        go_big_quiet_want
        refine quiet_enter 21 #[.slice a1 n1 c1, .slice a2 n2 c2] (.bool false) (fun W => by go_simp) (fun W hW => HS.out W hW) ?_
        go_simp
        go_big_quiet_on
        go_big_quiet_want
        refine quiet_val (.bool true) (fun W hW => by go_simp) ?_
        go_simp
        go_big_quiet_on
        refine wpQuiet_nil ?_
        intro w5 hL
        have q5 := hbel.trans (hL.out.mono hbel.size)
        have A1 : Aside (L ≠ L2) := fun e => of_decide_eq_false HT.out.symm (ED.out.1 e).1
        go_wp2
        go_ret
        exact ⟨ret_no A1.out, q5⟩
    · go_wp2
      go_ret
      exact ⟨ret_yes (A.out.1 (by rw [List.drop_eq_nil_of_le (by rw [HL.out]; omega), List.drop_eq_nil_of_le (by rw [HL2.out]; omega)])), hbel⟩
theorem lsame_any (a a2 : Option Addr) (n n2 cap cap2 : Nat) (L L2 : List (List (Int × Int))) (w : World) (h : Lv w a n L) (h2 : Lv w a2 n2 L2) (hm : n ≤ 9223372036854775807) :
    Calls Tryz.prog 55 #[.slice a n cap, .slice a2 n2 cap2] w fun e w' => e = .returned (.bool (decide (L = L2))) ∧ Below w.heap.size w w' := by
  by_cases hn : n = n2
  · subst hn
    obtain ⟨l1, h1⟩ := h
    obtain ⟨l2, h2⟩ := h2
    rcases h1 with rfl | ⟨b, off, rfl, hB, hc⟩
    · have e1 : L = [] := List.eq_nil_of_length_eq_zero l1
      have e2 : L2 = [] := List.eq_nil_of_length_eq_zero l2
      subst e1 e2
      refine (lsame_none a a2 cap cap2 w).mono ?_
      rintro e w' ⟨rfl, rfl⟩
      exact ⟨rfl, Below.refl _ _⟩
    · rcases h2 with rfl | ⟨b2, off2, rfl, hB2, hc2⟩
      · have e1 : L = [] := List.eq_nil_of_length_eq_zero l1
        have e2 : L2 = [] := List.eq_nil_of_length_eq_zero l2
        subst e1 e2
        refine (lsame_none _ a2 cap cap2 w).mono ?_
        rintro e w' ⟨rfl, rfl⟩
        exact ⟨rfl, Below.refl _ _⟩
      · exact lsame_some b off b2 off2 n cap cap2 L L2 w hm l1 l2 hB hB2 hc hc2
  · refine (lsame_len a a2 n n2 cap cap2 w hn).mono ?_
    rintro e w' ⟨rfl, rfl⟩
    exact ⟨ret_no (fun e => hn (by rw [← h.1, ← h2.1, e])), Below.refl _ _⟩
end Go.Proofs.YtcgpgflnihjpiagGreat

/- Cut1. -/
namespace Go.Proofs.YtcgpgflnihjpiagGreat.M
theorem lenFrom_six (level : Int) (n : Nat) (l : List (Int × Int)) (h : n ≤ 5) : lenFrom level n l ≤ 6 := by
  induction l generalizing n with
  | nil => simp [lenFrom]; omega
  | cons r t ih =>
    rw [lenFrom]
    split
    · omega
    · by_cases h5 : n = 5
      · subst h5; rename_i hs; exact absurd (Or.inl rfl) hs
      · exact ih (n + 1) (by omega)
theorem lenFrom_two (level : Int) (n : Nat) (l : List (Int × Int)) : 2 ≤ lenFrom level n l ∨ lenFrom level n l = n + l.length := by
  induction l generalizing n with
  | nil => right; simp [lenFrom]
  | cons r t ih =>
    rw [lenFrom]
    split
    · rename_i hs; left; omega
    · rcases ih (n + 1) with h | h
      · exact Or.inl h
      · right; rw [h, List.length_cons]; omega
theorem cut_flat (level : Int) (l : List (Int × Int)) : (cut level l).flatten = l := by
  obtain ⟨n, hn⟩ : ∃ n, l.length ≤ n := ⟨_, Nat.le_refl _⟩
  induction n generalizing l with
  | zero =>
    have : l = [] := List.eq_nil_of_length_eq_zero (by omega)
    subst this; rfl
  | succ n ih =>
    by_cases h : l = []
    · subst h; rfl
    · have hp := len_pos level l h
      rw [cut_step level l h, List.flatten_cons, ih _ (by rw [List.length_drop]; omega), List.take_append_drop]
theorem cut_lens (level : Int) (l : List (Int × Int)) (i : Nat) (hi : i < (cut level l).length) : 1 ≤ ((cut level l).getD i []).length ∧ ((cut level l).getD i []).length ≤ 6 ∧ (i + 1 < (cut level l).length → 2 ≤ ((cut level l).getD i []).length) := by
  obtain ⟨n, hn⟩ : ∃ n, l.length ≤ n := ⟨_, Nat.le_refl _⟩
  induction n generalizing l i with
  | zero =>
    have : l = [] := List.eq_nil_of_length_eq_zero (by omega)
    subst this; simp [cut_nil] at hi
  | succ n ih =>
    by_cases h : l = []
    · subst h; simp [cut_nil] at hi
    · have hp := len_pos level l h
      have e := cut_step level l h
      rw [e] at hi ⊢
      cases i with
      | zero =>
        have h6 := lenFrom_six level 0 l (by omega)
        have h2 := lenFrom_two level 0 l
        have el : ((l.take (len level l) :: cut level (l.drop (len level l))).getD 0 []).length = len level l := by simp; omega
        rw [el]
        refine ⟨hp.1, h6, fun hm => ?_⟩
        rcases h2 with h2 | h2
        · exact h2
        · exfalso
          have hd : l.drop (len level l) = [] := List.drop_eq_nil_of_le (by unfold len; omega)
          rw [hd] at hm
          simp [cut_nil] at hm
      | succ i =>
        have := ih (l.drop (len level l)) i (by simpa using hi) (by rw [List.length_drop]; omega)
        have el : (l.take (len level l) :: cut level (l.drop (len level l))).getD (i + 1) [] = (cut level (l.drop (len level l))).getD i [] := by simp
        rw [el]
        refine ⟨this.1, this.2.1, fun hm => this.2.2 (by simpa using hm)⟩
theorem cut_length_le (level : Int) (l : List (Int × Int)) : (cut level l).length ≤ l.length := by
  obtain ⟨n, hn⟩ : ∃ n, l.length ≤ n := ⟨_, Nat.le_refl _⟩
  induction n generalizing l with
  | zero =>
    have : l = [] := List.eq_nil_of_length_eq_zero (by omega)
    subst this; simp [cut_nil]
  | succ n ih =>
    by_cases h : l = []
    · subst h; simp [cut_nil]
    · have hp := len_pos level l h
      have := ih (l.drop (len level l)) (by rw [List.length_drop]; omega)
      rw [cut_step level l h, List.length_cons]
      rw [List.length_drop] at this
      omega
end Go.Proofs.YtcgpgflnihjpiagGreat.M

/- Tree0. -/
namespace Go.Proofs.YtcgpgflnihjpiagGreat.M
def tellOf (c : List (Int × Int)) : Int × Int := ((c.getD (c.length - 1) (0, 0)).1, sum c)
def tell (LL : List (List (Int × Int))) : List (Int × Int) := LL.map tellOf
def buildF : Nat → Nat → List (Int × Int) → List (List (List (Int × Int)))
  | 0, _, _ => []
  | f + 1, k, l => if l = [] then [] else if (cut k l).length = 1 then [cut k l] else cut k l :: buildF f (k + 1) (tell (cut k l))
def build (l : List (Int × Int)) : List (List (List (Int × Int))) := buildF l.length 0 l
theorem tell_length (LL : List (List (Int × Int))) : (tell LL).length = LL.length := by simp [tell]
theorem cut_half (level : Int) (l : List (Int × Int)) : (cut level l).length ≤ (l.length + 1) / 2 := by
  obtain ⟨n, hn⟩ : ∃ n, l.length ≤ n := ⟨_, Nat.le_refl _⟩
  induction n generalizing l with
  | zero =>
    have : l = [] := List.eq_nil_of_length_eq_zero (by omega)
    subst this; simp [cut_nil]
  | succ n ih =>
    by_cases h : l = []
    · subst h; simp [cut_nil]
    · have hp := len_pos level l h
      have h2 := lenFrom_two level 0 l
      have := ih (l.drop (len level l)) (by rw [List.length_drop]; omega)
      rw [cut_step level l h, List.length_cons]
      rw [List.length_drop] at this
      rcases h2 with h2 | h2
      · have h3 : 2 ≤ len level l := h2
        omega
      · have h3 : len level l = 0 + l.length := h2
        have hd : l.drop (len level l) = [] := List.drop_eq_nil_of_le (by omega)
        rw [hd, cut_nil, List.length_nil]
        omega
theorem cut_pos (level : Int) (l : List (Int × Int)) (h : l ≠ []) : 0 < (cut level l).length := by
  rw [cut_step level l h, List.length_cons]; omega
theorem tell_ok (LL : List (List (Int × Int))) (h : Ok LL.flatten) (hne : ∀ c ∈ LL, c ≠ []) : Ok (tell LL) ∧ ∀ r ∈ tell LL, ∃ q ∈ LL.flatten, q.1 = r.1 := by
  induction LL with
  | nil => exact ⟨⟨by simp [tell], by simp [tell]⟩, by simp [tell]⟩
  | cons c t ih =>
    rw [List.flatten_cons] at h
    have hc := hne c (by simp)
    have hcl : 0 < c.length := List.length_pos_iff.2 hc
    have hp := List.pairwise_append.1 h.2
    have ht : Ok t.flatten := ⟨fun r hr => h.1 r (by simp [hr]), hp.2.1⟩
    obtain ⟨i1, i2⟩ := ih ht fun c hc => hne c (by simp [hc])
    have hlast : c.getD (c.length - 1) (0, 0) ∈ c := getD_mem c _ (by omega)
    have hk := h.1 _ (List.mem_append_left _ hlast)
    have hs := sumFrom_range 1 c (by omega) (by omega)
    refine ⟨⟨fun r hr => ?_, ?_⟩, fun r hr => ?_⟩
    · rcases List.mem_cons.1 hr with rfl | hr
      · exact ⟨hk.1, hk.2.1, hs.1, hs.2⟩
      · exact i1.1 r hr
    · refine List.pairwise_cons.2 ⟨fun r hr => ?_, i1.2⟩
      obtain ⟨q, hq, e⟩ := i2 r hr
      have := hp.2.2 _ hlast q hq
      show (c.getD (c.length - 1) (0, 0)).1 < r.1
      omega
    · rcases List.mem_cons.1 hr with rfl | hr
      · exact ⟨_, List.mem_append_left _ hlast, rfl⟩
      · obtain ⟨q, hq, e⟩ := i2 r hr
        exact ⟨q, List.mem_append_right _ hq, e⟩
theorem cut_ne (level : Int) (l : List (Int × Int)) : ∀ c ∈ cut level l, c ≠ [] := by
  intro c hc e
  obtain ⟨i, hi, h⟩ := List.mem_iff_getElem.1 hc
  have := (cut_lens level l i hi).1
  rw [show (cut level l).getD i [] = c by simp [List.getD, hi, h], e] at this
  simp at this
theorem tell_cut_chk {level : Int} {l : List (Int × Int)} (h : chk l = 0) : chk (tell (cut level l)) = 0 := by
  have hz := (chk_zero l).1 h
  have h1 := (tell_ok (cut level l) (by rw [cut_flat]; exact hz.2) (cut_ne level l)).1
  refine (chk_zero _).2 ⟨?_, h1⟩
  rw [tell_length]
  have := cut_length_le level l
  omega
theorem buildF_nil (f k : Nat) : buildF f k [] = [] := by cases f <;> simp [buildF]
theorem buildF_one (f k : Nat) (l : List (Int × Int)) (h : l ≠ []) (h1 : (cut k l).length = 1) : buildF (f + 1) k l = [cut k l] := by rw [buildF, if_neg h, if_pos h1]
theorem buildF_more (f k : Nat) (l : List (Int × Int)) (h : l ≠ []) (h1 : (cut k l).length ≠ 1) : buildF (f + 1) k l = cut k l :: buildF f (k + 1) (tell (cut k l)) := by rw [buildF, if_neg h, if_neg h1]
theorem buildF_fuel (f g k : Nat) (l : List (Int × Int)) (hf : l.length ≤ f) (hg : l.length ≤ g) : buildF f k l = buildF g k l := by
  induction f generalizing g k l with
  | zero =>
    have : l = [] := List.eq_nil_of_length_eq_zero (by omega)
    subst this; rw [buildF_nil, buildF_nil]
  | succ f ih =>
    by_cases h : l = []
    · subst h; rw [buildF_nil, buildF_nil]
    · have hlp : 0 < l.length := List.length_pos_iff.2 h
      obtain ⟨g, rfl⟩ : ∃ g', g = g' + 1 := ⟨g - 1, by omega⟩
      by_cases h1 : (cut k l).length = 1
      · rw [buildF_one f k l h h1, buildF_one g k l h h1]
      · have hh := cut_half k l
        have hp := cut_pos k l h
        rw [buildF_more f k l h h1, buildF_more g k l h h1, ih g (k + 1) (tell (cut k l)) (by rw [tell_length]; omega) (by rw [tell_length]; omega)]
def lvl (n : Nat) : Nat := if n ≤ 2 then 1 else if n ≤ 4 then 2 else if n ≤ 8 then 3 else if n ≤ 16 then 4 else if n ≤ 32 then 5 else 6
theorem lvl_step (n : Nat) (h : n ≤ 40) (h2 : 2 < n) : lvl ((n + 1) / 2) + 1 ≤ lvl n := by
  unfold lvl
  (repeat' split) <;> omega
theorem lvl_mono (m n : Nat) (h : m ≤ n) : lvl m ≤ lvl n := by
  unfold lvl
  (repeat' split) <;> omega
theorem lvl_six (n : Nat) : 1 ≤ lvl n ∧ lvl n ≤ 6 := by
  unfold lvl
  (repeat' split) <;> omega
theorem cut_chk {level : Int} {l : List (Int × Int)} (h : chk l = 0) : ∀ c ∈ cut level l, chk c = 0 := by
  intro c hc
  have hz := (chk_zero l).1 h
  have hsub : List.Sublist c l := by
    have := List.sublist_flatten_of_mem hc
    rw [cut_flat] at this
    exact this
  refine (chk_zero c).2 ⟨?_, ?_⟩
  · have := hsub.length_le; omega
  · exact ⟨fun r hr => hz.2.1 r (hsub.subset hr), hz.2.2.sublist hsub⟩
end Go.Proofs.YtcgpgflnihjpiagGreat.M

/- Tell. -/
namespace Go.Proofs.YtcgpgflnihjpiagGreat
open Go.RowKit
theorem Lv.at {w : World} {b off n : Nat} {LL : List (List (Int × Int))} (h : Lv w (some ⟨b, off, none⟩) n LL) (hn : 0 < n) : b < w.heap.size ∧ ∀ i, i < n → ∃ a' n' c', w.cell? ⟨b, off + i, none⟩ = some (.slice a' n' c') ∧ Sl w a' n' c' (LL.getD i []) := by
  rcases h.2 with e | ⟨b', off', e, hlt, hc⟩
  · omega
  · obtain ⟨rfl, rfl⟩ : b = b' ∧ off = off' := by simpa using e
    exact ⟨hlt, hc⟩
theorem tell_snoc (LL : List (List (Int × Int))) (k : Nat) (h : k < LL.length) : M.tell (LL.take (k + 1)) = M.tell (LL.take k) ++ [M.tellOf (LL.getD k [])] := by
  unfold M.tell
  rw [List.take_succ_eq_append_getElem h, List.map_append]
  simp [List.getD, h]
set_option maxHeartbeats 4000000 in
theorem tell_some (b off n cap : Nat) (LL : List (List (Int × Int))) (w : World) (h : Lv w (some ⟨b, off, none⟩) n LL) (hn0 : 0 < n) (hn : n ≤ 40) (hne : ∀ c ∈ LL, c ≠ []) (hchk : ∀ c ∈ LL, M.chk c = 0) :
    Calls Tryz.prog 91 #[.slice (some ⟨b, off, none⟩) n cap] w fun e w' => ∃ v, e = .returned (.tuple #[v, .int .i64 0]) ∧ Own w' w.heap.size v (M.tell LL) ∧ Below w.heap.size w w' := by
  obtain ⟨hB, hcell⟩ := h.at hn0
  have HL : Aside (LL.length = n) := h.1
  have HCell : Aside (∀ i, i < n → ∃ a' n' c', w.cell? ⟨b, off + i, none⟩ = some (.slice a' n' c') ∧ Sl w a' n' c' (LL.getD i [])) := hcell
  have HNe : Aside (∀ c ∈ LL, c ≠ []) := hne
  have HChk : Aside (∀ c ∈ LL, M.chk c = 0) := hchk
  clear h hcell hne hchk
  go_enter Tryz.func91, Tryz.ntmps91
  go_wp2
  go_loopg [4, 11] n (fun g v i wr => ∃ k : Nat, k + g = n ∧ i = .int .i64 k ∧ Aside (Own wr w.heap.size v (M.tell (LL.take k))) ∧ Below w.heap.size w wr)
  case atStart => exact ⟨0, by omega, rfl, World.ownsRow_nil _ _ _ _, Below.refl _ _⟩
  case round =>
    obtain ⟨k, hk, rfl, HO, hbel⟩ := hrel
    have hsz := hbel.size
    by_cases hlt : k < n
    · obtain ⟨a', n', c', q1, s1⟩ := HCell.out k hlt
      have hmem : LL.getD k [] ∈ LL := by rw [List.getD, List.getElem?_eq_getElem (by rw [HL.out]; exact hlt)]; simp
      obtain ⟨x, hx⟩ : ∃ x, x = LL.getD k [] := ⟨_, rfl⟩
      rw [← hx] at s1 hmem
      have hxne := HNe.out x hmem
      have hxc := HChk.out x hmem
      have sw := s1.below hbel
      rcases sw.1.cases with ⟨_, e⟩ | ⟨xb, xo, rfl, hxn, hxl, hxB, hxc2⟩
      · exact absurd e hxne
      have hx40 : n' ≤ 40 := by rw [← hxl]; exact ((M.chk_zero x).1 hxc).1
      have qc : wr.cell? ⟨b, off + k, none⟩ = some (.slice (some ⟨xb, xo, none⟩) n' c') := (hbel.cell (p := ⟨b, off + k, none⟩) hB).trans q1
      obtain ⟨m, rfl⟩ : ∃ m, n' = m + 1 := ⟨n' - 1, by omega⟩
      have HSum := sum_any (some ⟨xb, xo, none⟩) (m + 1) c' x wr sw.1 (by omega)
      rw [show M.sumV x = M.sum x by unfold M.sumV; rw [if_pos hxc], hxc] at HSum
      have hkey := (hxc2 m (by omega)).1
      obtain ⟨s, hs⟩ : ∃ s, s = M.sum x := ⟨_, rfl⟩
      obtain ⟨ky, hky⟩ : ∃ ky, ky = (x.getD m (0, 0)).1 := ⟨_, rfl⟩
      rw [← hs] at HSum
      rw [← hky] at hkey
      have HS : Aside (Calls Tryz.prog 123 #[.slice (some ⟨xb, xo, none⟩) (m + 1) c'] wr fun e w' => e = .returned (.tuple #[.int .i64 s, .int .i64 0]) ∧ Below wr.heap.size wr w') := HSum
      have HKey : Aside (∀ W, Below wr.heap.size wr W → W.cell? ⟨xb, xo + m * 2, none⟩ = some (.int .i64 ky)) := fun W hW => (hW.cell (p := ⟨xb, xo + m * 2, none⟩) hxB).trans hkey
      have ET : Aside (M.tell (LL.take (k + 1)) = M.tell (LL.take k) ++ [(ky, s)]) := by
        unfold Aside
        rw [tell_snoc LL k (by rw [HL.out]; exact hlt), ← hx]
        have : M.tellOf x = (ky, s) := by unfold M.tellOf; rw [hxl, Nat.add_sub_cancel, hky, hs]
        rw [this]
      have HLen : Aside ((M.tell (LL.take k)).length + 1 ≤ 1000000) := by unfold Aside; rw [M.tell_length, List.length_take]; omega
      clear q1 s1 sw hxc2 HSum hkey hs hky hxc hxne hmem hx hxl
      go_wp2_with (first | (go_at_call 123; refine HS.out.mono ?_; rintro e w1 ⟨rfl, b1⟩; have hky1 := HKey.out w1 b1; have HO1 : Hid (Own (w1.alloc (.cells #[.int .i64 ky, .int .i64 s] 56)) w.heap.size u4 (M.tell (LL.take k))) := World.ownsRow.alloc (ownsRow_other HO.out (grown_none b1) (fun r e => by cases e)) _; have HR1 : Hid (Rd (w1.alloc (.cells #[.int .i64 ky, .int .i64 s] 56)) (some ⟨w1.heap.size, 0, none⟩) 1 [(ky, s)]) := one_rd w1 _ _; have hb1 : Below w.heap.size w w1 := hbel.trans (b1.mono hsz)) | (at_builtin; refine append_rd rfl _ _ rfl w.heap.size _ (M.tell (LL.take k)) rfl HO1.out (some ⟨w1.heap.size, 0, none⟩) 1 1 _ rfl HR1.out (by simp) HLen.out (by have := hb1.size; simp; omega) ?_))
      intro v' w' ho' hb3
      have HO' : Aside (Own w' w.heap.size v' (M.tell (LL.take (k + 1)))) := by unfold Aside; rw [ET.out]; exact ho'
      have hb4 : Below w.heap.size w w' := (hb1.alloc hb1.size _).trans hb3
      clear ho' hb3 HO1 HR1
      go_wp2
      go_roundg (gk - 1)
      case measure => omega
      case rel => exact ⟨k + 1, by omega, by go_num, HO', hb4⟩
    · obtain rfl : k = n := by omega
      have HO1 : Aside (Own wr w.heap.size u4 (M.tell LL)) := by
        have h5 := HO.out
        rw [List.take_of_length_le (by rw [HL.out]; omega)] at h5
        exact h5
      go_wp2
      go_ret2
      exact ⟨_, rfl, HO1.out, hbel⟩
theorem infoLevels : (Tryz.prog.info? 59).map (fun i => (i.zero, i.size, i.bytes)) = some (some (.slice none 0 0), 1, 24) := by kernel_rfl
def OwnT (W : World) (m : Nat) (v : Value) (T : List (List (List (Int × Int)))) : Prop :=
  ∃ vals, W.ownsRow m 59 1 v T.length vals ∧ ∀ i u, vals[i]? = some u → OwnLL W m u (T.getD i [])
theorem OwnT.nil (W : World) (m : Nat) : OwnT W m (.slice none 0 0) [] := ⟨[], World.ownsRow_nil _ _ _ _, fun i u h => by simp at h⟩
theorem OwnT.kept {W W' : World} {m : Nat} {v : Value} {T : List (List (List (Int × Int)))} (h : OwnT W m v T) {row : Option Nat} (hg : W.grownBy W' row)
    (hrow : ∀ r, row = some r → ∀ cur, W.heap[r]? ≠ some (.cells cur 59 (0, 0)) ∧ W.heap[r]? ≠ some (.cells cur 47 (0, 0)) ∧ W.heap[r]? ≠ some (.cells cur 56 (0, 0))) : OwnT W' m v T := by
  obtain ⟨vals, h1, h2⟩ := h
  exact ⟨vals, ownsRow_other h1 hg fun r e cur => (hrow r e cur).1, fun i u hu => (h2 i u hu).kept hg fun r e cur => (hrow r e cur).2⟩
theorem OwnT.mono {w : World} {base base' : Nat} {v : Value} {T : List (List (List (Int × Int)))} (h : OwnT w base v T) (hb : base' ≤ base) : OwnT w base' v T := by
  obtain ⟨vals, h1, h2⟩ := h
  exact ⟨vals, ownsRow_mono h1 hb, fun i u hu => (h2 i u hu).mono hb⟩
theorem levels_row {W : World} {m n : Nat} {v : Value} {vals : List Value} {tmp : Obj} (h1 : W.ownsRow m 59 1 v n vals) : ∀ r, v.ownBlock = some r → ∀ cur, (W.alloc tmp).heap[r]? ≠ some (.cells cur 47 (0, 0)) ∧ (W.alloc tmp).heap[r]? ≠ some (.cells cur 56 (0, 0)) := by
  intro r e cur
  rcases (h1.alloc tmp).2 with ⟨rfl, _⟩ | ⟨g, cap, cur', rfl, _, hgb, _⟩
  · simp [Value.ownBlock] at e
  · obtain rfl : g = r := by simpa [Value.ownBlock] using e
    rw [hgb]
    exact ⟨by simp, by simp⟩
theorem OwnT.append {W W1 : World} {m : Nat} {v v' u : Value} {T : List (List (List (Int × Int)))} {LL : List (List (Int × Int))} {vals : List Value} {tmp : Obj} (h1 : W.ownsRow m 59 1 v T.length vals) (h2 : ∀ i u, vals[i]? = some u → OwnLL W m u (T.getD i []))
    (hu : OwnLL W m u LL) (h3 : W1.ownsRow m 59 1 v' (T.length + 1) (vals ++ [u])) (hg : (W.alloc tmp).grownBy W1 v.ownBlock) : OwnT W1 m v' (T ++ [LL]) ∧ OwnLL W1 m u LL := by
  have hvl : vals.length = T.length := by have := h1.1; omega
  have hrow := levels_row (tmp := tmp) h1
  have hkeep : ∀ {x L}, OwnLL W m x L → OwnLL W1 m x L := fun h => (h.kept (grown_none ((Below.refl _ _).alloc (Nat.le_refl _) tmp)) (fun r e => by cases e)).kept hg hrow
  refine ⟨⟨vals ++ [u], by simpa using h3, fun i x hx => ?_⟩, hkeep hu⟩
  by_cases hi : i < T.length
  · rw [List.getElem?_append_left (by omega)] at hx
    have e : (T ++ [LL]).getD i [] = T.getD i [] := by simp [List.getD, List.getElem?_append_left hi]
    rw [e]
    exact hkeep (h2 i x hx)
  · have hi2 : i = T.length := by
      have := (List.getElem?_eq_some_iff.1 hx).1
      simp at this; omega
    subst hi2
    have e : (T ++ [LL]).getD T.length [] = LL := by simp [List.getD]
    rw [e]
    rw [List.getElem?_append_right (by omega)] at hx
    simp [hvl] at hx
    subst hx
    exact hkeep hu
def LvS (w : World) (a : Option Addr) (n c : Nat) (LL : List (List (Int × Int))) : Prop := Lv w a n LL ∧ n ≤ c ∧ c ≤ maxLen ∧ (a = none → n = 0 ∧ c = 0)
theorem LvS.below {w w' : World} {a : Option Addr} {n c : Nat} {LL : List (List (Int × Int))} (h : LvS w a n c LL) (hb : Below w.heap.size w w') : LvS w' a n c LL := ⟨h.1.below hb, h.2⟩
theorem LvS.len {w : World} {a : Option Addr} {n c : Nat} {LL : List (List (Int × Int))} (h : LvS w a n c LL) : n ≤ 9223372036854775807 := by have h1 := h.2.1; have h2 := h.2.2.1; unfold maxLen at h2; omega
def Tv (w : World) (a : Option Addr) (n : Nat) (T : List (List (List (Int × Int)))) : Prop :=
  T.length = n ∧ (n = 0 ∨ ∃ b off, a = some ⟨b, off, none⟩ ∧ b < w.heap.size ∧ ∀ i, i < n → ∃ a' n' c', w.cell? ⟨b, off + i, none⟩ = some (.slice a' n' c') ∧ LvS w a' n' c' (T.getD i []))
theorem Tv.below {w w' : World} {a : Option Addr} {n : Nat} {T : List (List (List (Int × Int)))} (h : Tv w a n T) (hb : Below w.heap.size w w') : Tv w' a n T := by
  obtain ⟨h1, h2⟩ := h
  refine ⟨h1, ?_⟩
  rcases h2 with h2 | ⟨b, off, ha, hlt, hc⟩
  · exact Or.inl h2
  · refine Or.inr ⟨b, off, ha, Nat.lt_of_lt_of_le hlt hb.size, fun i hi => ?_⟩
    obtain ⟨a', n', c', h3, h4⟩ := hc i hi
    exact ⟨a', n', c', (hb.cell (p := ⟨b, off + i, none⟩) hlt).trans h3, h4.below hb⟩
def TvS (w : World) (a : Option Addr) (n c : Nat) (T : List (List (List (Int × Int)))) : Prop := Tv w a n T ∧ n ≤ c ∧ c ≤ maxLen ∧ (a = none → n = 0 ∧ c = 0)
theorem TvS.below {w w' : World} {a : Option Addr} {n c : Nat} {T : List (List (List (Int × Int)))} (h : TvS w a n c T) (hb : Below w.heap.size w w') : TvS w' a n c T := ⟨h.1.below hb, h.2⟩
theorem TvS.len {w : World} {a : Option Addr} {n c : Nat} {T : List (List (List (Int × Int)))} (h : TvS w a n c T) : n ≤ 9223372036854775807 := by have h1 := h.2.1; have h2 := h.2.2.1; unfold maxLen at h2; omega
theorem OwnT.tv {w : World} {m : Nat} {v : Value} {T : List (List (List (Int × Int)))} (h : OwnT w m v T) : ∃ a n c, v = .slice a n c ∧ TvS w a n c T := by
  obtain ⟨vals, h1, h2⟩ := h
  have h0 := h1
  obtain ⟨h1, h3⟩ := h1
  rcases h3 with ⟨rfl, hn⟩ | ⟨g, cap, cur, rfl, hb, hh, hc, hm, hs, hx⟩
  · exact ⟨none, 0, 0, rfl, ⟨hn, Or.inl rfl⟩, Nat.le_refl _, by simp [maxLen], fun _ => ⟨rfl, rfl⟩⟩
  · refine ⟨_, _, cap, rfl, ⟨rfl, Or.inr ⟨g, 0, rfl, (Array.getElem?_eq_some_iff.1 hh).1, fun i hi => ?_⟩⟩, hc, hm, fun h => by simp at h⟩
    have hil : i < vals.length := by omega
    obtain ⟨u, hu⟩ : ∃ u, vals[i]? = some u := ⟨_, List.getElem?_eq_getElem hil⟩
    obtain ⟨a', n', c', rfl, r⟩ := (h2 i u hu).lv
    exact ⟨a', n', c', by rw [World.ownsRow.cellAt h0 (0 + i) (by omega), Nat.zero_add]; exact hu, r⟩
def Cuts (fn : Nat) (cs : List Value) (w : World) : Prop := ∀ (W : World) (b off ln c : Nat) (ll : List (Int × Int)) (k : Nat), Below w.heap.size w W → Sl W (some ⟨b, off, none⟩) ln c ll → 0 < ln → M.chk ll = 0 → k ≤ 9 →
  Calls Tryz.prog fn (.slice (some ⟨b, off, none⟩) ln c :: .int .i64 k :: cs).toArray W fun e w' => ∃ v, e = .returned (.tuple #[v, .int .i64 0]) ∧ OwnLL w' W.heap.size v (M.cut (k : Int) ll) ∧ Below W.heap.size W w'
theorem of_none (fn : Nat) (cs : List Value) (a : Option Addr) (cap : Nat) (w : World) :
    Calls Tryz.prog 48 #[.slice a 0 cap, .func (.func fn) #[] cs.toArray] w fun e w' => e = .returned (.tuple #[.slice none 0 0, .int .i64 0]) ∧ Below w.heap.size w w' := by
  go_enter Tryz.func48, Tryz.ntmps48
  go_wp2
  refine wp_loop_rounds 1 ?_
  rw [rounds_succ]
  go_wp2
  go_ret2
  exact ⟨rfl, Below.refl _ _⟩
set_option maxHeartbeats 8000000 in
theorem of_some (fn : Nat) (cs : List Value) (eg : ∀ args w, (callFunc fn args).run Tryz.prog w = .ok (.enter fn args) w) (b0 off0 n cap : Nat) (l : List (Int × Int)) (w : World) (hcuts : Cuts fn cs w) (h : Sl w (some ⟨b0, off0, none⟩) n cap l) (hn0 : 0 < n) (h0 : M.chk l = 0) :
    Calls Tryz.prog 48 #[.slice (some ⟨b0, off0, none⟩) n cap, .func (.func fn) #[] cs.toArray] w fun e w' => ∃ v, e = .returned (.tuple #[v, .int .i64 0]) ∧ OwnT w' w.heap.size v (M.build l) ∧ Below w.heap.size w w' := by
  obtain ⟨i0, hi, hz0, hz1, hz2⟩ := info_parts infoLevels
  have hn40 : n ≤ 40 := by rw [← h.1.1]; exact ((M.chk_zero l).1 h0).1
  have HS : Aside (Sl w (some ⟨b0, off0, none⟩) n cap l) := h
  have HZ : Aside (M.chk l = 0) := h0
  have HCuts : Aside (Cuts fn cs w) := hcuts
  clear h h0 hcuts
  go_enter Tryz.func48, Tryz.ntmps48
  go_wp2
  go_loopg [0, 6] n (fun g vl v wr => ∃ (b off ln c k : Nat) (ll : List (Int × Int)) (T : List (List (List (Int × Int)))), vl = .slice (some ⟨b, off, none⟩) ln c ∧ ln ≤ g ∧ 0 < ln ∧ ln ≤ 40 ∧ k + M.lvl ln ≤ 6 ∧ Aside (T.length = k) ∧ Aside (Sl wr (some ⟨b, off, none⟩) ln c ll) ∧ Aside (M.chk ll = 0) ∧ Aside (OwnT wr w.heap.size v T) ∧ Aside (T ++ M.buildF ln k ll = M.build l) ∧ Below w.heap.size w wr)
  case atStart => exact ⟨b0, off0, n, cap, 0, l, [], rfl, Nat.le_refl _, hn0, hn40, by have := (M.lvl_six n).2; omega, rfl, HS.out, HZ, OwnT.nil _ _, by unfold Aside; rw [List.nil_append, M.build, HS.out.1.1], Below.refl _ _⟩
  case round =>
    obtain ⟨b, off, ln, c, k, ll, T, rfl, hlg, hln0, hln, hkl, HT, HSl, HCk, HO, HE, hbel⟩ := hrel
    have hsz := hbel.size
    have hk6 : k ≤ 5 := by have := (M.lvl_six ln).1; omega
    obtain ⟨ta, tn, tc, htv, htS⟩ := HO.out.tv
    obtain rfl : tn = k := by rw [← HT.out]; exact htS.1.1.symm
    subst htv
    have hne : ll ≠ [] := fun e => by have := HSl.out.1.1; rw [e] at this; simp at this; omega
    have HC := HCuts.out wr b off ln c ll tn hbel HSl.out hln0 HCk.out (by omega)
    obtain ⟨LL, hLL⟩ : ∃ LL, LL = M.cut (tn : Int) ll := ⟨_, rfl⟩
    rw [← hLL] at HC
    have HC1 : Aside (Calls Tryz.prog fn (.slice (some ⟨b, off, none⟩) ln c :: .int .i64 tn :: cs).toArray wr fun e w' => ∃ v, e = .returned (.tuple #[v, .int .i64 0]) ∧ OwnLL w' wr.heap.size v LL ∧ Below wr.heap.size wr w') := HC
    have HLL : Aside (LL = M.cut (tn : Int) ll) := hLL
    have hLp : 0 < LL.length := by rw [hLL]; exact M.cut_pos _ ll hne
    have hLh : LL.length ≤ (ln + 1) / 2 := by rw [hLL, ← HSl.out.1.1]; exact M.cut_half _ ll
    have HNe : Aside (ll ≠ []) := hne
    obtain ⟨N, hN⟩ : ∃ N, N = LL.length := ⟨_, rfl⟩
    rw [← hN] at hLp hLh
    have HN : Aside (N = LL.length) := hN
    clear HC hLL hne hN htS
    go_wp2_with fail
    refine HC1.out.mono ?_
    rintro e w2 ⟨lv, rfl, holl, b2⟩
    obtain ⟨la, ln', lc, rfl, hlv⟩ := holl.lv
    obtain rfl : ln' = N := by rw [HN.out]; exact hlv.1.1.symm
    have HOLL : Aside (OwnLL w2 w.heap.size (.slice la ln' lc) LL) := holl.mono hsz
    have HOT2 : Aside (OwnT w2 w.heap.size (.slice ta tn tc) T) := HO.out.kept (grown_none b2) (fun r e => by cases e)
    obtain ⟨vals, hrow, hel⟩ := HOT2.out
    have HRow : Aside (w2.ownsRow w.heap.size 59 1 (.slice ta tn tc) T.length vals) := hrow
    have HEl : Aside (∀ i u, vals[i]? = some u → OwnLL w2 w.heap.size u (T.getD i [])) := hel
    have hb2 : Below w.heap.size w w2 := hbel.trans (b2.mono hsz)
    clear holl hlv hrow hel b2 HC1
    by_cases h1 : ln' = 1
    · have h1b : ((ln' : Int) == 1) = true := by simp [h1]
      have EB : Aside (T ++ [LL] = M.build l) := by
        unfold Aside
        rw [← HE.out]
        obtain ⟨f, rfl⟩ : ∃ f, ln = f + 1 := ⟨ln - 1, by omega⟩
        rw [M.buildF_one f tn ll HNe.out (by rw [← HLL.out, ← HN.out, h1]), HLL.out]
      clear h1
      go_wp2_with (at_builtin; refine wpList_append_own _ rfl _ _ 50 rfl w.heap.size 59 i0 (.slice none 0 0) 1 24 Tryz.underlying50 hi hz0 hz1 hz2 rfl (by decide) _ T.length vals rfl (World.ownsRow.alloc HRow.out _) ⟨w2.heap.size, 0, none⟩ 1 1 [.slice la ln' lc] rfl rfl (cell_one_new _ _ _) (by simp [Value.oneCell']) (by rw [HT.out]; simp [maxLen]; omega) (by rw [HT.out]; omega) (by have := hb2.size; simp; omega) ?_)
      intro v3 w3 hown3 hgrow3 _
      obtain ⟨hot3, hll3⟩ := OwnT.append HRow.out HEl.out HOLL.out hown3 hgrow3
      have HOT3 : Aside (OwnT w3 w.heap.size v3 (M.build l)) := by unfold Aside; rw [← EB.out]; exact hot3
      have hb3 : Below w.heap.size w w3 := (hb2.alloc hb2.size _).grown hgrow3 (by have := hb2.size; simp; omega) (fun r e => (World.ownsRow.lt HRow.out r e).1)
      clear hown3 hgrow3 hot3 hll3
      go_wp2
      go_ret2
      exact ⟨_, rfl, HOT3.out, hb3⟩
    · have h1b : ((ln' : Int) == 1) = false := by simp; omega
      have HNE : Aside (∀ c ∈ LL, c ≠ []) := by unfold Aside; rw [HLL.out]; exact M.cut_ne _ ll
      have HCH : Aside (∀ c ∈ LL, M.chk c = 0) := by unfold Aside; rw [HLL.out]; exact M.cut_chk HCk.out
      have HTC : Aside (M.chk (M.tell LL) = 0) := by unfold Aside; rw [HLL.out]; exact M.tell_cut_chk HCk.out
      have EB : Aside ((T ++ [LL]) ++ M.buildF ln' (tn + 1) (M.tell LL) = M.build l) := by
        unfold Aside
        rw [← HE.out]
        obtain ⟨f, rfl⟩ : ∃ f, ln = f + 1 := ⟨ln - 1, by omega⟩
        rw [M.buildF_more f tn ll HNe.out (by rw [← HLL.out, ← HN.out]; exact h1), HLL.out, List.append_assoc, List.singleton_append, ← HLL.out]
        rw [M.buildF_fuel ln' f (tn + 1) (M.tell LL) (by rw [M.tell_length, ← HN.out]; exact Nat.le_refl _) (by rw [M.tell_length, ← HN.out]; omega)]
      have hlv1 : ln' < ln := by omega
      have hlv2 : tn + 1 + M.lvl ln' ≤ 6 := by
        have e1 := M.lvl_mono ln' ((ln + 1) / 2) hLh
        have e2 := M.lvl_step ln hln (by omega)
        omega
      go_wp2_with (at_builtin; refine wpList_append_own _ rfl _ _ 50 rfl w.heap.size 59 i0 (.slice none 0 0) 1 24 Tryz.underlying50 hi hz0 hz1 hz2 rfl (by decide) _ T.length vals rfl (World.ownsRow.alloc HRow.out _) ⟨w2.heap.size, 0, none⟩ 1 1 [.slice la ln' lc] rfl rfl (cell_one_new _ _ _) (by simp [Value.oneCell']) (by rw [HT.out]; simp [maxLen]; omega) (by rw [HT.out]; omega) (by have := hb2.size; simp; omega) ?_)
      intro v3 w3 hown3 hgrow3 _
      obtain ⟨hot3, hll3⟩ := OwnT.append HRow.out HEl.out HOLL.out hown3 hgrow3
      have HOT3 : Aside (OwnT w3 w.heap.size v3 (T ++ [LL])) := hot3
      have hb3 : Below w.heap.size w w3 := (hb2.alloc hb2.size _).grown hgrow3 (by have := hb2.size; simp; omega) (fun r e => (World.ownsRow.lt HRow.out r e).1)
      obtain ⟨la', ln'', lc', hle, hlv3⟩ := hll3.lv
      obtain ⟨rfl, rfl, rfl⟩ : la = la' ∧ ln' = ln'' ∧ lc = lc' := by simpa using hle
      obtain ⟨lb, lo, rfl⟩ : ∃ lb lo, la = some ⟨lb, lo, none⟩ := by
        rcases hlv3.1.2 with e | ⟨b', o', e, _⟩
        · omega
        · exact ⟨b', o', e⟩
      have HTell : Aside (Calls Tryz.prog 91 #[.slice (some ⟨lb, lo, none⟩) ln' lc] w3 fun e w' => ∃ v, e = .returned (.tuple #[v, .int .i64 0]) ∧ Own w' w3.heap.size v (M.tell LL) ∧ Below w3.heap.size w3 w') := tell_some lb lo ln' lc LL w3 hlv3.1 hLp (by omega) HNE.out HCH.out
      clear hown3 hgrow3 hot3 hll3 hle hlv3
      go_wp2_with fail
      refine HTell.out.mono ?_
      rintro e w4 ⟨tv, rfl, hot, b4⟩
      obtain ⟨na, nc, rfl, hnr, hn1, hn2, hn3⟩ := hot.rd
      have etl : (M.tell LL).length = ln' := by rw [M.tell_length]; exact HN.out.symm
      have HSN : Aside (Sl w4 na (M.tell LL).length nc (M.tell LL)) := ⟨hnr, hn1, hn2, hn3⟩
      rw [etl] at HSN
      have etl' : (Value.slice na (M.tell LL).length nc) = .slice na ln' nc := by rw [etl]
      rw [etl']
      obtain ⟨nb, no, rfl⟩ : ∃ nb no, na = some ⟨nb, no, none⟩ := by
        rcases HSN.out.1.cases with ⟨e, _⟩ | ⟨b', o', e, _⟩
        · omega
        · exact ⟨b', o', e⟩
      have HOT4 : Aside (OwnT w4 w.heap.size v3 (T ++ [LL])) := HOT3.out.kept (grown_none b4) (fun r e => by cases e)
      have hb4 : Below w.heap.size w w4 := hb3.trans (b4.mono hb3.size)
      have HTL : Aside ((T ++ [LL]).length = tn + 1) := by unfold Aside; rw [List.length_append, HT.out]; rfl
      clear hot hnr hn1 hn2 hn3 etl etl' HTell b4 h1
      go_wp2
      go_roundg ln'
      case measure => omega
      case rel => exact ⟨nb, no, ln', nc, tn + 1, M.tell LL, T ++ [LL], rfl, Nat.le_refl _, hLp, by omega, hlv2, HTL, HSN, HTC, HOT4, EB, hb4⟩
theorem of_any (fn : Nat) (cs : List Value) (eg : ∀ args w, (callFunc fn args).run Tryz.prog w = .ok (.enter fn args) w) (a : Option Addr) (n cap : Nat) (l : List (Int × Int)) (w : World) (hcuts : Cuts fn cs w) (h : Sl w a n cap l) (h0 : M.chk l = 0) :
    Calls Tryz.prog 48 #[.slice a n cap, .func (.func fn) #[] cs.toArray] w fun e w' => ∃ v, e = .returned (.tuple #[v, .int .i64 0]) ∧ OwnT w' w.heap.size v (M.build l) ∧ Below w.heap.size w w' := by
  rcases h.1.cases with ⟨rfl, rfl⟩ | ⟨b, off, rfl, hn, _⟩
  · refine (of_none fn cs a cap w).mono ?_
    rintro e w' ⟨rfl, hb⟩
    exact ⟨_, rfl, OwnT.nil _ _, hb⟩
  · exact of_some fn cs eg b off n cap l w hcuts h hn h0
end Go.Proofs.YtcgpgflnihjpiagGreat
namespace Go.Proofs.YtcgpgflnihjpiagGreat
open Go.RowKit Go.Shelf
theorem cut_cuts (w : World) : Cuts 49 [] w := by
  intro W b off ln c ll k _ hS hn h0 hk
  have hB : b < W.heap.size := by
    rcases hS.1.cases with ⟨e, _⟩ | ⟨b', off', e, _, _, hB, _⟩
    · omega
    · obtain ⟨rfl, rfl⟩ : b = b' ∧ off = off' := by simpa using e
      exact hB
  exact cut_some b off ln c ll (k : Int) W hS.1 hS.2.1 hS.2.2.1 h0 (by omega) (by omega) hB
theorem build_bad (a : Option Addr) (n cap : Nat) (l : List (Int × Int)) (w : World) (h : Rd w a n l) (hm : n ≤ 9223372036854775807) (hb : M.chk l ≠ 0) :
    Calls Tryz.prog 18 #[.slice a n cap] w fun e w' => e = .returned (.tuple #[.slice none 0 0, .int .i64 (M.chk l)]) ∧ Below w.heap.size w w' := by
  have H := check_any a n cap l w h hm
  obtain ⟨c, hc⟩ : ∃ c, c = M.chk l := ⟨_, rfl⟩
  rw [← hc] at H hb ⊢
  clear hc h
  have hne : (c != 0) = true := by simp [hb]
  clear hb
  have HH : Hid (Calls Tryz.prog 47 #[.slice a n cap] w fun e w' => e = .returned (.int .i64 c) ∧ Below w.heap.size w w') := H
  clear H
  go_enter Tryz.func18, Tryz.ntmps18
  go_wp2_with (go_at_call 47; refine HH.out.mono ?_; rintro e w' ⟨rfl, hb1⟩)
  go_ret2
  exact ⟨rfl, hb1⟩
theorem build_ok (a : Option Addr) (n cap : Nat) (l : List (Int × Int)) (w : World) (h : Sl w a n cap l) (h0 : M.chk l = 0) :
    Calls Tryz.prog 18 #[.slice a n cap] w fun e w' => ∃ v, e = .returned (.tuple #[v, .int .i64 0]) ∧ OwnT w' w.heap.size v (M.build l) ∧ Below w.heap.size w w' := by
  have H := check_any a n cap l w h.1 h.len
  rw [h0] at H
  have HH : Aside (Calls Tryz.prog 47 #[.slice a n cap] w fun e w' => e = .returned (.int .i64 0) ∧ Below w.heap.size w w') := H
  have HS : Aside (Sl w a n cap l) := h
  have HZ : Aside (M.chk l = 0) := h0
  clear H h h0
  go_enter Tryz.func18, Tryz.ntmps18
  go_wp2_with (go_at_call 47; refine HH.out.mono ?_; rintro e w1 ⟨rfl, b1⟩)
  have HO : Aside (Calls Tryz.prog 48 #[.slice a n cap, .func (.func 49) #[] #[]] w1 fun e w' => ∃ v, e = .returned (.tuple #[v, .int .i64 0]) ∧ OwnT w' w1.heap.size v (M.build l) ∧ Below w1.heap.size w1 w') := of_any 49 [] (enters_of Tryz.func49 (by kernel_rfl) rfl) a n cap l w1 (cut_cuts w1) (HS.out.below b1) HZ.out
  refine HO.out.mono ?_
  rintro e w2 ⟨v, rfl, ho, b2⟩
  have HO2 : Aside (OwnT w2 w.heap.size v (M.build l)) := ho.mono b1.size
  have hb2 : Below w.heap.size w w2 := b1.trans (b2.mono b1.size)
  clear ho b2
  go_wp2
  go_ret2
  exact ⟨_, rfl, HO2.out, hb2⟩
theorem build_any (a : Option Addr) (n cap : Nat) (l : List (Int × Int)) (w : World) (h : Sl w a n cap l) :
    Calls Tryz.prog 18 #[.slice a n cap] w fun e w' => ∃ v, e = .returned (.tuple #[v, .int .i64 (M.chk l)]) ∧ OwnT w' w.heap.size v (if M.chk l = 0 then M.build l else []) ∧ Below w.heap.size w w' := by
  by_cases h0 : M.chk l = 0
  · rw [if_pos h0, h0]
    exact build_ok a n cap l w h h0
  · rw [if_neg h0]
    refine (build_bad a n cap l w h.1 h.len h0).mono ?_
    rintro e w' ⟨rfl, hb⟩
    exact ⟨_, rfl, OwnT.nil _ _, hb⟩
end Go.Proofs.YtcgpgflnihjpiagGreat
namespace Go.Proofs.YtcgpgflnihjpiagGreat
open Go.RowKit
theorem tsame_len (a a2 : Option Addr) (n n2 cap cap2 : Nat) (w : World) (h : n ≠ n2) :
    Calls Tryz.prog 22 #[.slice a n cap, .slice a2 n2 cap2] w fun e w' => e = .returned (.bool false) ∧ w' = w := by
  have hb : ((n : Int) != (n2 : Int)) = true := by simp; omega
  go_enter Tryz.func22, Tryz.ntmps22
  go_wp2
  go_ret
  exact ⟨rfl, rfl⟩
theorem tsame_none (a a2 : Option Addr) (cap cap2 : Nat) (w : World) :
    Calls Tryz.prog 22 #[.slice a 0 cap, .slice a2 0 cap2] w fun e w' => e = .returned (.bool true) ∧ w' = w := by
  go_enter Tryz.func22, Tryz.ntmps22
  go_wp2
  refine wp_loop_rounds 1 ?_
  rw [rounds_succ]
  go_wp2
  go_ret
  exact ⟨rfl, rfl⟩
theorem drop_atT (l : List (List (List (Int × Int)))) (k : Nat) (h : k < l.length) : l.drop k = l.getD k [] :: l.drop (k + 1) := by
  rw [List.drop_eq_getElem_cons h]; simp [List.getD, h]
theorem eq_dropT (l l2 : List (List (List (Int × Int)))) (k : Nat) (h : k < l.length) (h2 : k < l2.length) : (l.drop k = l2.drop k) ↔ l.getD k [] = l2.getD k [] ∧ l.drop (k + 1) = l2.drop (k + 1) := by
  rw [drop_atT l k h, drop_atT l2 k h2, List.cons.injEq]
set_option maxHeartbeats 4000000 in
theorem tsame_some (b off b2 off2 n cap cap2 : Nat) (L L2 : List (List (List (Int × Int)))) (w : World) (hm : n ≤ 9223372036854775807) (hl : L.length = n) (hl2 : L2.length = n) (hB : b < w.heap.size) (hB2 : b2 < w.heap.size)
    (hc : ∀ i, i < n → ∃ a' n' c', w.cell? ⟨b, off + i, none⟩ = some (.slice a' n' c') ∧ LvS w a' n' c' (L.getD i []))
    (hc2 : ∀ i, i < n → ∃ a' n' c', w.cell? ⟨b2, off2 + i, none⟩ = some (.slice a' n' c') ∧ LvS w a' n' c' (L2.getD i [])) :
    Calls Tryz.prog 22 #[.slice (some ⟨b, off, none⟩) n cap, .slice (some ⟨b2, off2, none⟩) n cap2] w fun e w' => e = .returned (.bool (decide (L = L2))) ∧ Below w.heap.size w w' := by
  have HC : Aside (∀ i, i < n → ∃ a' n' c', w.cell? ⟨b, off + i, none⟩ = some (.slice a' n' c') ∧ LvS w a' n' c' (L.getD i [])) := hc
  have HC2 : Aside (∀ i, i < n → ∃ a' n' c', w.cell? ⟨b2, off2 + i, none⟩ = some (.slice a' n' c') ∧ LvS w a' n' c' (L2.getD i [])) := hc2
  have HL : Aside (L.length = n) := hl
  have HL2 : Aside (L2.length = n) := hl2
  clear hc hl hc2 hl2
  go_enter Tryz.func22, Tryz.ntmps22
  go_wp2
  go_loopg [5] n (fun g i wr => ∃ k : Nat, k + g = n ∧ i = .int .i64 k ∧ Below w.heap.size w wr ∧ Aside (L.drop k = L2.drop k ↔ L = L2))
  case atStart => exact ⟨0, by omega, rfl, Below.refl _ _, by simp [Aside]⟩
  case round =>
    obtain ⟨k, hk, rfl, hbel, A⟩ := hrel
    by_cases hlt : k < n
    · obtain ⟨a1, n1, c1, q1, s1⟩ := HC.out k hlt
      obtain ⟨a2, n2, c2, q2, s2⟩ := HC2.out k hlt
      obtain ⟨x, hx⟩ : ∃ x, x = L.getD k [] := ⟨_, rfl⟩
      obtain ⟨y, hy⟩ : ∃ y, y = L2.getD k [] := ⟨_, rfl⟩
      have ed := eq_dropT L L2 k (by rw [HL.out]; exact hlt) (by rw [HL2.out]; exact hlt)
      rw [← hx, ← hy, A.out] at ed
      rw [← hx] at s1
      rw [← hy] at s2
      have ED : Aside (L = L2 ↔ x = y ∧ L.drop (k + 1) = L2.drop (k + 1)) := ed
      have S1 : Aside (∀ W, Later wr W → W.cell? ⟨b, off + k, none⟩ = some (.slice a1 n1 c1)) := fun W hW => (hW.out.cell (p := ⟨b, off + k, none⟩) (by show b < _; have := hbel.size; omega)).trans ((hbel.cell (p := ⟨b, off + k, none⟩) hB).trans q1)
      have S2 : Aside (∀ W, Later wr W → W.cell? ⟨b2, off2 + k, none⟩ = some (.slice a2 n2 c2)) := fun W hW => (hW.out.cell (p := ⟨b2, off2 + k, none⟩) (by show b2 < _; have := hbel.size; omega)).trans ((hbel.cell (p := ⟨b2, off2 + k, none⟩) hB2).trans q2)
      obtain ⟨t, ht⟩ : ∃ t, t = decide (x = y) := ⟨_, rfl⟩
      have HT : Aside (t = decide (x = y)) := ht
      have HS : Aside (∀ W, Later wr W → Calls Tryz.prog 55 #[.slice a1 n1 c1, .slice a2 n2 c2] W fun e w' => e = .returned (.bool t) ∧ Later wr w') := fun W hW => by
        rw [ht]
        refine (lsame_any a1 a2 n1 n2 c1 c2 x y W ((s1.1.below hbel).below hW.out) ((s2.1.below hbel).below hW.out) s1.len).mono ?_
        rintro e w' ⟨rfl, hb⟩
        exact ⟨rfl, hW.out.trans (hb.mono hW.out.size)⟩
      have hki : (k : Int) < (n : Int) := by omega
      clear q1 q2 s1 s2 ed hx hy ht
      cases t with
      | true =>
        go_wp2_with fail
        refine wp_region_later (W0 := wr) (by kernel_rfl) (by kernel_rfl) (Below.refl _ _) ?_
        go_big_quiet_want
        go_big_quiet_op
        go_big_quiet_on
        go_big_quiet_want
        go_big_quiet_op
        go_big_quiet_on
        go_big_quiet_want
        refine quiet_val (.pointer (some ⟨b, off + k, none⟩)) (fun W hW => by go_simp) ?_
        go_simp
        go_big_quiet_on
        go_big_quiet_want
        refine quiet_val (.slice a1 n1 c1) (fun W hW => by have h := S1.out W hW; go_simp) ?_
        go_simp
        go_big_quiet_on
        go_big_quiet_want
        go_big_quiet_op
        go_big_quiet_on
        go_big_quiet_want
        go_big_quiet_op
        go_big_quiet_on
        go_big_quiet_want
        refine quiet_val (.pointer (some ⟨b2, off2 + k, none⟩)) (fun W hW => by go_simp) ?_
        go_simp
        go_big_quiet_on
        go_big_quiet_want
        refine quiet_val (.slice a2 n2 c2) (fun W hW => by have h := S2.out W hW; go_simp) ?_
        go_simp
        go_big_quiet_on
        go_big_quiet_want
        refine quiet_enter 55 #[.slice a1 n1 c1, .slice a2 n2 c2] (.bool true) (fun W => by go_simp) (fun W hW => HS.out W hW) ?_
        go_simp
        go_big_quiet_on
        go_big_quiet_want
        refine quiet_val (.bool false) (fun W hW => by go_simp) ?_
        go_simp
        go_big_quiet_on
        refine wpQuiet_nil ?_
        intro w5 hL
        have q5 := hbel.trans (hL.out.mono hbel.size)
        have hxy : x = y := of_decide_eq_true HT.out.symm
        have A1 : Aside (L.drop (k + 1) = L2.drop (k + 1) ↔ L = L2) := by unfold Aside; rw [ED.out]; simp [hxy]
        clear hxy
        go_wp2
        go_roundg (gk - 1)
        case measure => omega
        case rel => exact ⟨k + 1, by omega, by go_num, q5, A1⟩
      | false =>
        go_wp2_with fail
        refine wp_region_later (W0 := wr) (by kernel_rfl) (by kernel_rfl) (Below.refl _ _) ?_
        go_big_quiet_want
        go_big_quiet_op
        go_big_quiet_on
        go_big_quiet_want
        go_big_quiet_op
        go_big_quiet_on
        go_big_quiet_want
        refine quiet_val (.pointer (some ⟨b, off + k, none⟩)) (fun W hW => by go_simp) ?_
        go_simp
        go_big_quiet_on
        go_big_quiet_want
        refine quiet_val (.slice a1 n1 c1) (fun W hW => by have h := S1.out W hW; go_simp) ?_
        go_simp
        go_big_quiet_on
        go_big_quiet_want
        go_big_quiet_op
        go_big_quiet_on
        go_big_quiet_want
        go_big_quiet_op
        go_big_quiet_on
        go_big_quiet_want
        refine quiet_val (.pointer (some ⟨b2, off2 + k, none⟩)) (fun W hW => by go_simp) ?_
        go_simp
        go_big_quiet_on
        go_big_quiet_want
        refine quiet_val (.slice a2 n2 c2) (fun W hW => by have h := S2.out W hW; go_simp) ?_
        go_simp
        go_big_quiet_on
        go_big_quiet_want
        refine quiet_enter 55 #[.slice a1 n1 c1, .slice a2 n2 c2] (.bool false) (fun W => by go_simp) (fun W hW => HS.out W hW) ?_
        go_simp
        go_big_quiet_on
        go_big_quiet_want
        refine quiet_val (.bool true) (fun W hW => by go_simp) ?_
        go_simp
        go_big_quiet_on
        refine wpQuiet_nil ?_
        intro w5 hL
        have q5 := hbel.trans (hL.out.mono hbel.size)
        have A1 : Aside (L ≠ L2) := fun e => of_decide_eq_false HT.out.symm (ED.out.1 e).1
        go_wp2
        go_ret
        exact ⟨ret_no A1.out, q5⟩
    · go_wp2
      go_ret
      exact ⟨ret_yes (A.out.1 (by rw [List.drop_eq_nil_of_le (by rw [HL.out]; omega), List.drop_eq_nil_of_le (by rw [HL2.out]; omega)])), hbel⟩
theorem tsame_any (a a2 : Option Addr) (n n2 cap cap2 : Nat) (L L2 : List (List (List (Int × Int)))) (w : World) (h : Tv w a n L) (h2 : Tv w a2 n2 L2) (hm : n ≤ 9223372036854775807) :
    Calls Tryz.prog 22 #[.slice a n cap, .slice a2 n2 cap2] w fun e w' => e = .returned (.bool (decide (L = L2))) ∧ Below w.heap.size w w' := by
  by_cases hn : n = n2
  · subst hn
    obtain ⟨l1, h1⟩ := h
    obtain ⟨l2, h2⟩ := h2
    rcases h1 with rfl | ⟨b, off, rfl, hB, hc⟩
    · have e1 : L = [] := List.eq_nil_of_length_eq_zero l1
      have e2 : L2 = [] := List.eq_nil_of_length_eq_zero l2
      subst e1 e2
      refine (tsame_none a a2 cap cap2 w).mono ?_
      rintro e w' ⟨rfl, rfl⟩
      exact ⟨rfl, Below.refl _ _⟩
    · rcases h2 with rfl | ⟨b2, off2, rfl, hB2, hc2⟩
      · have e1 : L = [] := List.eq_nil_of_length_eq_zero l1
        have e2 : L2 = [] := List.eq_nil_of_length_eq_zero l2
        subst e1 e2
        refine (tsame_none _ a2 cap cap2 w).mono ?_
        rintro e w' ⟨rfl, rfl⟩
        exact ⟨rfl, Below.refl _ _⟩
      · exact tsame_some b off b2 off2 n cap cap2 L L2 w hm l1 l2 hB hB2 hc hc2
  · refine (tsame_len a a2 n n2 cap cap2 w hn).mono ?_
    rintro e w' ⟨rfl, rfl⟩
    exact ⟨ret_no (fun e => hn (by rw [← h.1, ← h2.1, e])), Below.refl _ _⟩
theorem rsum_none (a : Option Addr) (cap : Nat) (w : World) :
    Calls Tryz.prog 104 #[.slice a 0 cap] w fun e w' => e = .returned (.int .i64 1) ∧ Below w.heap.size w w' := by
  go_enter Tryz.func104, Tryz.ntmps104
  go_wp2
  refine wp_loop_rounds 1 ?_
  rw [rounds_succ]
  go_wp2
  go_ret
  exact ⟨rfl, Below.refl _ _⟩
set_option maxHeartbeats 2000000 in
theorem rsum_some (b off n cap : Nat) (l : List (Int × Int)) (w : World) (hn : n ≤ 40) (hl : l.length = n) (hB : b < w.heap.size) (h0 : M.chk l = 0)
    (hc : ∀ i, i < n → w.cell? ⟨b, off + i * 2, none⟩ = some (.int .i64 (l.getD i (0, 0)).1) ∧ w.cell? ⟨b, off + i * 2 + 1, none⟩ = some (.int .i64 (l.getD i (0, 0)).2)) :
    Calls Tryz.prog 104 #[.slice (some ⟨b, off, none⟩) n cap] w fun e w' => e = .returned (.int .i64 (M.sum l)) ∧ Below w.heap.size w w' := by
  have HOk : Aside (M.Ok l) := ((M.chk_zero l).1 h0).2
  have HC : Aside (∀ i, i < n → w.cell? ⟨b, off + i * 2, none⟩ = some (.int .i64 (l.getD i (0, 0)).1) ∧ w.cell? ⟨b, off + i * 2 + 1, none⟩ = some (.int .i64 (l.getD i (0, 0)).2)) := hc
  have HL : Aside (l.length = n) := hl
  clear hc hl h0
  go_enter Tryz.func104, Tryz.ntmps104
  go_wp2
  go_loopg [3, 4] n (fun g s i wr => ∃ (k : Nat) (q : Int), k + g = n ∧ 0 ≤ q ∧ q ≤ 996 ∧ i = .int .i64 k ∧ s = .int .i64 q ∧ Below w.heap.size w wr ∧ Aside (M.sumFrom q (l.drop k) = M.sum l))
  case atStart => exact ⟨0, 1, by omega, by omega, by omega, rfl, rfl, Below.refl _ _, by simp [Aside, M.sum]⟩
  case round =>
    obtain ⟨k, q, hk, hq0, hq1, rfl, rfl, hbel, A⟩ := hrel
    have hsz := hbel.size
    by_cases hlt : k < n
    · obtain ⟨x, y, hxy⟩ : ∃ x y, l.getD k (0, 0) = (x, y) := ⟨_, _, rfl⟩
      have c0 : wr.cell? ⟨b, off + k * 2, none⟩ = some (.int .i64 x) := by rw [hbel.cell (p := ⟨b, off + k * 2, none⟩) hB, (HC.out k hlt).1, hxy]
      have c1 : wr.cell? ⟨b, off + k * 2 + 1, none⟩ = some (.int .i64 y) := by rw [hbel.cell (p := ⟨b, off + k * 2 + 1, none⟩) hB, (HC.out k hlt).2, hxy]
      have hr := HOk.out.1 (l.getD k (0, 0)) (M.getD_mem l k (by rw [HL.out]; exact hlt))
      rw [hxy] at hr
      obtain ⟨x0, x1, y0, y1⟩ : 0 ≤ x ∧ x ≤ 99 ∧ 0 ≤ y ∧ y ≤ 996 := hr
      have HXY : Aside (l.getD k (0, 0) = (x, y)) := hxy
      clear hxy
      have hki : (k : Int) < (n : Int) := by omega
      go_wp2_with fail
      go_quiet (fail)
      go_wp2
      go_roundg (gk - 1)
      case measure => omega
      case rel => exact ⟨k + 1, (31 * q + 7 * x + y + 1) % 997, by omega, by omega, by omega, by go_num, by go_num, below_drewN hbel _, by unfold Aside; rw [← A.out, M.sumFrom_step q l k (by rw [HL.out]; exact hlt) x y HXY.out]⟩
    · go_wp2
      go_ret
      exact ⟨ret_int (A.out.symm.trans (M.sumFrom_end q l k (by rw [HL.out]; omega))).symm, hbel⟩
theorem rsum_any (a : Option Addr) (n cap : Nat) (l : List (Int × Int)) (w : World) (h : Rd w a n l) (h0 : M.chk l = 0) :
    Calls Tryz.prog 104 #[.slice a n cap] w fun e w' => e = .returned (.int .i64 (M.sum l)) ∧ Below w.heap.size w w' := by
  rcases h.cases with ⟨rfl, rfl⟩ | ⟨b, off, rfl, hn, hl, hB, hc⟩
  · exact rsum_none a cap w
  · exact rsum_some b off n cap l w (by rw [← hl]; exact ((M.chk_zero l).1 h0).1) hl hB h0 hc
set_option maxHeartbeats 2000000 in
theorem endsOf_any (x y level : Int) (w : World) :
    Calls Tryz.prog 128 #[.agg #[.int .i64 x, .int .i64 y], .int .i64 level] w fun e w' => e = .returned (.bool (M.ends level x y)) ∧ Below w.heap.size w w' := by
  have hbW : Below w.heap.size w (w.alloc (.cells #[.int .i64 x, .int .i64 y] 56)) := (Below.refl _ _).alloc (Nat.le_refl _) _
  by_cases hx : 0 ≤ x ∧ x ≤ 99
  · obtain ⟨x0, x1⟩ := hx
    by_cases hy : 0 ≤ y ∧ y ≤ 996
    · obtain ⟨y0, y1⟩ := hy
      by_cases hl : 0 ≤ level ∧ level ≤ 9
      · obtain ⟨l0, l1⟩ := hl
        have e1 : M.ends level x y = ((7 * x + 13 * y + 5 * level) % 3 == 0) := by rw [M.ends_yes (by simp [M.right]; omega), M.endsB, Bool.eq_iff_iff]; simp
        have E1 : Hid (M.ends level x y = ((7 * x + 13 * y + 5 * level) % 3 == 0)) := e1
        clear e1
        go_enter Tryz.func128, Tryz.ntmps128
        go_wp2_with fail
        refine (isKey_yes _ _ x0 x1).mono ?_
        rintro e w1 ⟨rfl, rfl⟩
        go_wp2_with fail
        refine (within_yes _ _ _ _ y0 y1).mono ?_
        rintro e w1 ⟨rfl, rfl⟩
        go_wp2_with fail
        refine (within_yes _ _ _ _ l0 l1).mono ?_
        rintro e w1 ⟨rfl, rfl⟩
        go_wp2
        go_ret
        exact ⟨ret_bool E1.out.symm, hbW⟩
      · have E1 : Hid (M.ends level x y = false) := M.ends_no (by simp [M.right]; omega)
        have HL : Hid (level < 0 ∨ 9 < level) := by unfold Hid; omega
        clear hl
        go_enter Tryz.func128, Tryz.ntmps128
        go_wp2_with fail
        refine (isKey_yes _ _ x0 x1).mono ?_
        rintro e w1 ⟨rfl, rfl⟩
        go_wp2_with fail
        refine (within_yes _ _ _ _ y0 y1).mono ?_
        rintro e w1 ⟨rfl, rfl⟩
        go_wp2_with fail
        refine (within_no _ _ _ _ HL.out).mono ?_
        rintro e w1 ⟨rfl, rfl⟩
        go_wp2
        go_ret
        exact ⟨ret_bool E1.out.symm, hbW⟩
    · have E1 : Hid (M.ends level x y = false) := M.ends_no (by simp [M.right]; omega)
      have HL : Hid (y < 0 ∨ 996 < y) := by unfold Hid; omega
      clear hy
      go_enter Tryz.func128, Tryz.ntmps128
      go_wp2_with fail
      refine (isKey_yes _ _ x0 x1).mono ?_
      rintro e w1 ⟨rfl, rfl⟩
      go_wp2_with fail
      refine (within_no _ _ _ _ HL.out).mono ?_
      rintro e w1 ⟨rfl, rfl⟩
      go_wp2
      go_ret
      exact ⟨ret_bool E1.out.symm, hbW⟩
  · have E1 : Hid (M.ends level x y = false) := M.ends_no (by simp [M.right]; omega)
    have HL : Hid (x < 0 ∨ 99 < x) := by unfold Hid; omega
    clear hx
    go_enter Tryz.func128, Tryz.ntmps128
    go_wp2_with fail
    refine (isKey_no _ _ HL.out).mono ?_
    rintro e w1 ⟨rfl, rfl⟩
    go_wp2
    go_ret
    exact ⟨ret_bool E1.out.symm, hbW⟩
theorem rcut_none (a : Option Addr) (cap : Nat) (level : Int) (w : World) :
    Calls Tryz.prog 103 #[.slice a 0 cap, .int .i64 level] w fun e w' => e = .returned (.slice none 0 0) ∧ w' = w := by
  go_enter Tryz.func103, Tryz.ntmps103
  go_wp2
  refine wp_loop_rounds 1 ?_
  rw [rounds_succ]
  go_wp2
  go_ret
  exact ⟨rfl, rfl⟩
set_option maxHeartbeats 8000000 in
theorem rcut_some (b off n cap : Nat) (l : List (Int × Int)) (level : Int) (w : World) (hn : n ≤ 40) (hcap : n ≤ cap) (_hcm : cap ≤ maxLen) (h : Rd w (some ⟨b, off, none⟩) n l) (hB : b < w.heap.size)
    (hc : ∀ i, i < n → w.cell? ⟨b, off + i * 2, none⟩ = some (.int .i64 (l.getD i (0, 0)).1) ∧ w.cell? ⟨b, off + i * 2 + 1, none⟩ = some (.int .i64 (l.getD i (0, 0)).2)) :
    Calls Tryz.prog 103 #[.slice (some ⟨b, off, none⟩) n cap, .int .i64 level] w fun e w' => ∃ v, e = .returned v ∧ OwnLL w' w.heap.size v (M.cut level l) ∧ Below w.heap.size w w' := by
  obtain ⟨i0, hi, hz0, hz1, hz2⟩ := info_parts infoRows
  have HR : Aside (Rd w (some ⟨b, off, none⟩) n l) := h
  have HC : Aside (∀ i, i < n → w.cell? ⟨b, off + i * 2, none⟩ = some (.int .i64 (l.getD i (0, 0)).1) ∧ w.cell? ⟨b, off + i * 2 + 1, none⟩ = some (.int .i64 (l.getD i (0, 0)).2)) := hc
  have HL : Aside (l.length = n) := h.1
  unfold maxLen at _hcm
  clear hc h
  go_enter Tryz.func103, Tryz.ntmps103
  go_wp2
  go_loopg [5, 6, 7] n (fun g v vf vk wr => ∃ (k fr : Nat) (LL : List (List (Int × Int))), k + g = n ∧ fr ≤ k ∧ LL.length ≤ k ∧ vk = .int .i64 k ∧ vf = .int .i64 fr ∧ Aside (OwnLL wr w.heap.size v LL) ∧ Below w.heap.size w wr ∧ Aside (LL ++ M.cut level (l.drop fr) = M.cut level l) ∧ Aside (M.lenFrom level (k - fr) (l.drop k) = M.len level (l.drop fr)) ∧ Aside (k = n → fr = n))
  case atStart => exact ⟨0, 0, [], by omega, by omega, by simp, rfl, rfl, OwnLL.nil _ _, Below.refl _ _, by simp [Aside], by simp [Aside, M.len], fun h => by omega⟩
  case round =>
    obtain ⟨k, fr, LL, hk, hfk, hLLk, rfl, rfl, HO, hbel, HE, HA, HF⟩ := hrel
    have hsz := hbel.size
    by_cases hlt : k < n
    · obtain ⟨x, y, hxy⟩ : ∃ x y, l.getD k (0, 0) = (x, y) := ⟨_, _, rfl⟩
      have c0 : wr.cell? ⟨b, off + k * 2, none⟩ = some (.int .i64 x) := by rw [hbel.cell (p := ⟨b, off + k * 2, none⟩) hB, (HC.out k hlt).1, hxy]
      have c1 : wr.cell? ⟨b, off + k * 2 + 1, none⟩ = some (.int .i64 y) := by rw [hbel.cell (p := ⟨b, off + k * 2 + 1, none⟩) hB, (HC.out k hlt).2, hxy]
      have HXY : Aside (l.getD k (0, 0) = (x, y)) := hxy
      clear hxy
      obtain ⟨e, he⟩ : ∃ e, e = M.ends level x y := ⟨_, rfl⟩
      have HEn : Aside (e = M.ends level x y) := he
      clear he
      cases e with
      | true =>
        by_cases h2 : 2 ≤ k - fr + 1
        · have h2i : (2 : Int) ≤ (k : Int) - (fr : Int) + 1 := by omega
          go_wp2_with (first | (go_at_call 128; refine (endsOf_any x y level _).mono ?_; rintro e w1 ⟨rfl, hb1⟩; rw [← HEn.out]; have HEm : Hid (Own (w1.alloc (.cells #[] 56)) w1.heap.size (.slice (some ⟨w1.heap.size, 0, none⟩) 0 0) []) := own_empty0 w1; have HRd : Hid (Rd (w1.alloc (.cells #[] 56)) (some ⟨b, off + fr * 2, none⟩) (k + 1 - fr) ((l.drop fr).take (k + 1 - fr))) := (((HR.out.below hbel (Nat.le_refl _)).below hb1 (Nat.le_refl _)).below ((Below.refl _ _).alloc (Nat.le_refl _) _) (Nat.le_refl _)).mid fr (k + 1 - fr) (by omega); have HO1 : Hid (OwnLL w1 w.heap.size u5 LL) := HO.out.kept (grown_none hb1) (fun r e => by cases e); have hb2 : Below w.heap.size w w1 := hbel.trans (hb1.mono hsz)) | (at_builtin; refine append_rd rfl (.tmp 41) (.tmp 46) rfl w1.heap.size _ [] rfl HEm.out (some ⟨b, off + fr * 2, none⟩) (k + 1 - fr) (cap - fr) ((l.drop fr).take (k + 1 - fr)) rfl HRd.out (by simp) (by simp; omega) (by simp) ?_; intro u w2 ho2 hb3; have hb4 : Below w1.heap.size w1 w2 := ((Below.refl _ _).alloc (Nat.le_refl _) _).trans hb3; obtain ⟨ua, un, uc, rfl⟩ := own_shape ho2; have HU : Hid (Own w2 w.heap.size (.slice ua un uc) ((l.drop fr).take (k + 1 - fr))) := Own.mono ho2 hb2.size; obtain ⟨vals, hrow, hel⟩ := HO1.out.kept (grown_none hb4) (fun r e => by cases e); have HRow : Hid (w2.ownsRow w.heap.size 47 1 u5 LL.length vals) := hrow; have HEl : Hid (∀ i u, vals[i]? = some u → Own w2 w.heap.size u (LL.getD i [])) := hel; have hb5 : Below w.heap.size w w2 := hb2.trans (hb4.mono hb2.size); clear hrow hel ho2 hb3) | (at_builtin; refine wpList_append_own _ rfl (.tmp 40) (.tmp 48) 59 rfl w.heap.size 47 i0 (.slice none 0 0) 1 24 Tryz.underlying59 hi hz0 hz1 hz2 rfl (by decide) _ LL.length vals rfl (World.ownsRow.alloc HRow.out _) ⟨w2.heap.size, 0, none⟩ 1 1 [.slice ua un uc] rfl rfl (cell_one_new _ _ _) (by simp [Value.oneCell']) (by simp [maxLen]; omega) (by omega) (by have := hb5.size; simp; omega) ?_; intro v3 w3 hown3 hgrow3 _))
          have HO3 : Aside (OwnLL w3 w.heap.size v3 (LL ++ [(l.drop fr).take (k + 1 - fr)])) := OwnLL.append HRow.out HEl.out HU.out hown3 hgrow3
          have hb6 : Below w.heap.size w w3 := (hb5.alloc hb5.size _).grown hgrow3 (by have := hb5.size; simp; omega) (fun r e => (World.ownsRow.lt HRow.out r e).1)
          clear hown3 hgrow3
          go_wp2
          go_roundg (gk - 1)
          case measure => omega
          case rel => exact ⟨k + 1, k + 1, _, by omega, by omega, by simp; omega, by go_num, by go_num, HO3, hb6, by unfold Aside; rw [← HE.out, M.cut_at hfk (by rw [HL.out]; exact hlt) HA.out x y HXY.out (by rw [← HEn.out, HL.out]; simp; omega), show k - fr + 1 = k + 1 - fr by omega]; simp, by simp [Aside, M.len], fun h => by omega⟩
        · by_cases hl : k + 1 = n
          · have h2i : decide ((2 : Int) ≤ (k : Int) - (fr : Int) + 1) = false := by simp; omega
            have h6i : ((k : Int) - (fr : Int) + 1 == 6) = false := by simp; omega
            have hli : ((k : Int) == (n : Int) - 1) = true := by simp; omega
            have hl2 : n ≤ k + 1 := by omega
            clear hl
            go_wp2_with (first | (go_at_call 128; refine (endsOf_any x y level _).mono ?_; rintro e w1 ⟨rfl, hb1⟩; rw [← HEn.out]; have HEm : Hid (Own (w1.alloc (.cells #[] 56)) w1.heap.size (.slice (some ⟨w1.heap.size, 0, none⟩) 0 0) []) := own_empty0 w1; have HRd : Hid (Rd (w1.alloc (.cells #[] 56)) (some ⟨b, off + fr * 2, none⟩) (k + 1 - fr) ((l.drop fr).take (k + 1 - fr))) := (((HR.out.below hbel (Nat.le_refl _)).below hb1 (Nat.le_refl _)).below ((Below.refl _ _).alloc (Nat.le_refl _) _) (Nat.le_refl _)).mid fr (k + 1 - fr) (by omega); have HO1 : Hid (OwnLL w1 w.heap.size u5 LL) := HO.out.kept (grown_none hb1) (fun r e => by cases e); have hb2 : Below w.heap.size w w1 := hbel.trans (hb1.mono hsz)) | (at_builtin; refine append_rd rfl (.tmp 41) (.tmp 46) rfl w1.heap.size _ [] rfl HEm.out (some ⟨b, off + fr * 2, none⟩) (k + 1 - fr) (cap - fr) ((l.drop fr).take (k + 1 - fr)) rfl HRd.out (by simp) (by simp; omega) (by simp) ?_; intro u w2 ho2 hb3; have hb4 : Below w1.heap.size w1 w2 := ((Below.refl _ _).alloc (Nat.le_refl _) _).trans hb3; obtain ⟨ua, un, uc, rfl⟩ := own_shape ho2; have HU : Hid (Own w2 w.heap.size (.slice ua un uc) ((l.drop fr).take (k + 1 - fr))) := Own.mono ho2 hb2.size; obtain ⟨vals, hrow, hel⟩ := HO1.out.kept (grown_none hb4) (fun r e => by cases e); have HRow : Hid (w2.ownsRow w.heap.size 47 1 u5 LL.length vals) := hrow; have HEl : Hid (∀ i u, vals[i]? = some u → Own w2 w.heap.size u (LL.getD i [])) := hel; have hb5 : Below w.heap.size w w2 := hb2.trans (hb4.mono hb2.size); clear hrow hel ho2 hb3) | (at_builtin; refine wpList_append_own _ rfl (.tmp 40) (.tmp 48) 59 rfl w.heap.size 47 i0 (.slice none 0 0) 1 24 Tryz.underlying59 hi hz0 hz1 hz2 rfl (by decide) _ LL.length vals rfl (World.ownsRow.alloc HRow.out _) ⟨w2.heap.size, 0, none⟩ 1 1 [.slice ua un uc] rfl rfl (cell_one_new _ _ _) (by simp [Value.oneCell']) (by simp [maxLen]; omega) (by omega) (by have := hb5.size; simp; omega) ?_; intro v3 w3 hown3 hgrow3 _))
            have HO3 : Aside (OwnLL w3 w.heap.size v3 (LL ++ [(l.drop fr).take (k + 1 - fr)])) := OwnLL.append HRow.out HEl.out HU.out hown3 hgrow3
            have hb6 : Below w.heap.size w w3 := (hb5.alloc hb5.size _).grown hgrow3 (by have := hb5.size; simp; omega) (fun r e => (World.ownsRow.lt HRow.out r e).1)
            clear hown3 hgrow3
            go_wp2
            go_roundg (gk - 1)
            case measure => omega
            case rel => exact ⟨k + 1, k + 1, _, by omega, by omega, by simp; omega, by go_num, by go_num, HO3, hb6, by unfold Aside; rw [← HE.out, M.cut_at hfk (by rw [HL.out]; exact hlt) HA.out x y HXY.out (by rw [← HEn.out, HL.out]; simp; omega), show k - fr + 1 = k + 1 - fr by omega]; simp, by simp [Aside, M.len], fun h => by omega⟩
          · have h2i : decide ((2 : Int) ≤ (k : Int) - (fr : Int) + 1) = false := by simp; omega
            have h6i : ((k : Int) - (fr : Int) + 1 == 6) = false := by simp; omega
            have hli : ((k : Int) == (n : Int) - 1) = false := by simp; omega
            go_wp2_with (go_at_call 128; refine (endsOf_any x y level _).mono ?_; rintro e w1 ⟨rfl, hb1⟩; rw [← HEn.out])
            have hb2 := hbel.trans (hb1.mono hsz)
            have HO2 : Aside (OwnLL w1 w.heap.size _ LL) := HO.out.kept (grown_none hb1) (fun r e => by cases e)
            go_roundg (gk - 1)
            case measure => omega
            case rel => exact ⟨k + 1, fr, LL, by omega, by omega, by omega, by go_num, rfl, HO2, hb2, HE, M.cut_on hfk (by rw [HL.out]; exact hlt) HA.out x y HXY.out (by rw [← HEn.out]; simp; omega), fun h => by omega⟩
      | false =>
        by_cases h6 : k - fr + 1 = 6
        · have h6i : ((k : Int) - (fr : Int) + 1 == 6) = true := by simp; omega
          go_wp2_with (first | (go_at_call 128; refine (endsOf_any x y level _).mono ?_; rintro e w1 ⟨rfl, hb1⟩; rw [← HEn.out]; have HEm : Hid (Own (w1.alloc (.cells #[] 56)) w1.heap.size (.slice (some ⟨w1.heap.size, 0, none⟩) 0 0) []) := own_empty0 w1; have HRd : Hid (Rd (w1.alloc (.cells #[] 56)) (some ⟨b, off + fr * 2, none⟩) (k + 1 - fr) ((l.drop fr).take (k + 1 - fr))) := (((HR.out.below hbel (Nat.le_refl _)).below hb1 (Nat.le_refl _)).below ((Below.refl _ _).alloc (Nat.le_refl _) _) (Nat.le_refl _)).mid fr (k + 1 - fr) (by omega); have HO1 : Hid (OwnLL w1 w.heap.size u5 LL) := HO.out.kept (grown_none hb1) (fun r e => by cases e); have hb2 : Below w.heap.size w w1 := hbel.trans (hb1.mono hsz)) | (at_builtin; refine append_rd rfl (.tmp 41) (.tmp 46) rfl w1.heap.size _ [] rfl HEm.out (some ⟨b, off + fr * 2, none⟩) (k + 1 - fr) (cap - fr) ((l.drop fr).take (k + 1 - fr)) rfl HRd.out (by simp) (by simp; omega) (by simp) ?_; intro u w2 ho2 hb3; have hb4 : Below w1.heap.size w1 w2 := ((Below.refl _ _).alloc (Nat.le_refl _) _).trans hb3; obtain ⟨ua, un, uc, rfl⟩ := own_shape ho2; have HU : Hid (Own w2 w.heap.size (.slice ua un uc) ((l.drop fr).take (k + 1 - fr))) := Own.mono ho2 hb2.size; obtain ⟨vals, hrow, hel⟩ := HO1.out.kept (grown_none hb4) (fun r e => by cases e); have HRow : Hid (w2.ownsRow w.heap.size 47 1 u5 LL.length vals) := hrow; have HEl : Hid (∀ i u, vals[i]? = some u → Own w2 w.heap.size u (LL.getD i [])) := hel; have hb5 : Below w.heap.size w w2 := hb2.trans (hb4.mono hb2.size); clear hrow hel ho2 hb3) | (at_builtin; refine wpList_append_own _ rfl (.tmp 40) (.tmp 48) 59 rfl w.heap.size 47 i0 (.slice none 0 0) 1 24 Tryz.underlying59 hi hz0 hz1 hz2 rfl (by decide) _ LL.length vals rfl (World.ownsRow.alloc HRow.out _) ⟨w2.heap.size, 0, none⟩ 1 1 [.slice ua un uc] rfl rfl (cell_one_new _ _ _) (by simp [Value.oneCell']) (by simp [maxLen]; omega) (by omega) (by have := hb5.size; simp; omega) ?_; intro v3 w3 hown3 hgrow3 _))
          have HO3 : Aside (OwnLL w3 w.heap.size v3 (LL ++ [(l.drop fr).take (k + 1 - fr)])) := OwnLL.append HRow.out HEl.out HU.out hown3 hgrow3
          have hb6 : Below w.heap.size w w3 := (hb5.alloc hb5.size _).grown hgrow3 (by have := hb5.size; simp; omega) (fun r e => (World.ownsRow.lt HRow.out r e).1)
          clear hown3 hgrow3
          go_wp2
          go_roundg (gk - 1)
          case measure => omega
          case rel => exact ⟨k + 1, k + 1, _, by omega, by omega, by simp; omega, by go_num, by go_num, HO3, hb6, by unfold Aside; rw [← HE.out, M.cut_at hfk (by rw [HL.out]; exact hlt) HA.out x y HXY.out (by rw [← HEn.out, HL.out]; simp; omega), show k - fr + 1 = k + 1 - fr by omega]; simp, by simp [Aside, M.len], fun h => by omega⟩
        · by_cases hl : k + 1 = n
          · have h6i : ((k : Int) - (fr : Int) + 1 == 6) = false := by simp; omega
            have hli : ((k : Int) == (n : Int) - 1) = true := by simp; omega
            have hl2 : n ≤ k + 1 := by omega
            clear hl
            go_wp2_with (first | (go_at_call 128; refine (endsOf_any x y level _).mono ?_; rintro e w1 ⟨rfl, hb1⟩; rw [← HEn.out]; have HEm : Hid (Own (w1.alloc (.cells #[] 56)) w1.heap.size (.slice (some ⟨w1.heap.size, 0, none⟩) 0 0) []) := own_empty0 w1; have HRd : Hid (Rd (w1.alloc (.cells #[] 56)) (some ⟨b, off + fr * 2, none⟩) (k + 1 - fr) ((l.drop fr).take (k + 1 - fr))) := (((HR.out.below hbel (Nat.le_refl _)).below hb1 (Nat.le_refl _)).below ((Below.refl _ _).alloc (Nat.le_refl _) _) (Nat.le_refl _)).mid fr (k + 1 - fr) (by omega); have HO1 : Hid (OwnLL w1 w.heap.size u5 LL) := HO.out.kept (grown_none hb1) (fun r e => by cases e); have hb2 : Below w.heap.size w w1 := hbel.trans (hb1.mono hsz)) | (at_builtin; refine append_rd rfl (.tmp 41) (.tmp 46) rfl w1.heap.size _ [] rfl HEm.out (some ⟨b, off + fr * 2, none⟩) (k + 1 - fr) (cap - fr) ((l.drop fr).take (k + 1 - fr)) rfl HRd.out (by simp) (by simp; omega) (by simp) ?_; intro u w2 ho2 hb3; have hb4 : Below w1.heap.size w1 w2 := ((Below.refl _ _).alloc (Nat.le_refl _) _).trans hb3; obtain ⟨ua, un, uc, rfl⟩ := own_shape ho2; have HU : Hid (Own w2 w.heap.size (.slice ua un uc) ((l.drop fr).take (k + 1 - fr))) := Own.mono ho2 hb2.size; obtain ⟨vals, hrow, hel⟩ := HO1.out.kept (grown_none hb4) (fun r e => by cases e); have HRow : Hid (w2.ownsRow w.heap.size 47 1 u5 LL.length vals) := hrow; have HEl : Hid (∀ i u, vals[i]? = some u → Own w2 w.heap.size u (LL.getD i [])) := hel; have hb5 : Below w.heap.size w w2 := hb2.trans (hb4.mono hb2.size); clear hrow hel ho2 hb3) | (at_builtin; refine wpList_append_own _ rfl (.tmp 40) (.tmp 48) 59 rfl w.heap.size 47 i0 (.slice none 0 0) 1 24 Tryz.underlying59 hi hz0 hz1 hz2 rfl (by decide) _ LL.length vals rfl (World.ownsRow.alloc HRow.out _) ⟨w2.heap.size, 0, none⟩ 1 1 [.slice ua un uc] rfl rfl (cell_one_new _ _ _) (by simp [Value.oneCell']) (by simp [maxLen]; omega) (by omega) (by have := hb5.size; simp; omega) ?_; intro v3 w3 hown3 hgrow3 _))
            have HO3 : Aside (OwnLL w3 w.heap.size v3 (LL ++ [(l.drop fr).take (k + 1 - fr)])) := OwnLL.append HRow.out HEl.out HU.out hown3 hgrow3
            have hb6 : Below w.heap.size w w3 := (hb5.alloc hb5.size _).grown hgrow3 (by have := hb5.size; simp; omega) (fun r e => (World.ownsRow.lt HRow.out r e).1)
            clear hown3 hgrow3
            go_wp2
            go_roundg (gk - 1)
            case measure => omega
            case rel => exact ⟨k + 1, k + 1, _, by omega, by omega, by simp; omega, by go_num, by go_num, HO3, hb6, by unfold Aside; rw [← HE.out, M.cut_at hfk (by rw [HL.out]; exact hlt) HA.out x y HXY.out (by rw [← HEn.out, HL.out]; simp; omega), show k - fr + 1 = k + 1 - fr by omega]; simp, by simp [Aside, M.len], fun h => by omega⟩
          · have h6i : ((k : Int) - (fr : Int) + 1 == 6) = false := by simp; omega
            have hli : ((k : Int) == (n : Int) - 1) = false := by simp; omega
            go_wp2_with (go_at_call 128; refine (endsOf_any x y level _).mono ?_; rintro e w1 ⟨rfl, hb1⟩; rw [← HEn.out])
            have hb2 := hbel.trans (hb1.mono hsz)
            have HO2 : Aside (OwnLL w1 w.heap.size _ LL) := HO.out.kept (grown_none hb1) (fun r e => by cases e)
            go_roundg (gk - 1)
            case measure => omega
            case rel => exact ⟨k + 1, fr, LL, by omega, by omega, by omega, by go_num, rfl, HO2, hb2, HE, M.cut_on hfk (by rw [HL.out]; exact hlt) HA.out x y HXY.out (by rw [← HEn.out]; simp; omega), fun h => by omega⟩
    · obtain rfl : k = n := by omega
      have hfr : fr = k := HF.out rfl
      have E : Aside (LL = M.cut level l) := by
        have h := HE.out
        rw [hfr, List.drop_eq_nil_of_le (by rw [HL.out]; omega), M.cut_nil, List.append_nil] at h
        exact h
      clear hfr
      go_wp2
      go_ret
      exact ⟨_, rfl, by rw [← E.out]; exact HO.out, hbel⟩
theorem rcut_any (a : Option Addr) (n cap : Nat) (l : List (Int × Int)) (level : Int) (w : World) (h : Sl w a n cap l) (h0 : M.chk l = 0) :
    Calls Tryz.prog 103 #[.slice a n cap, .int .i64 level] w fun e w' => ∃ v, e = .returned v ∧ OwnLL w' w.heap.size v (M.cut level l) ∧ Below w.heap.size w w' := by
  rcases h.1.cases with ⟨rfl, rfl⟩ | ⟨b, off, rfl, hn, hl, hB, hc⟩
  · refine (rcut_none a cap level w).mono ?_
    rintro e w' ⟨rfl, rfl⟩
    exact ⟨_, rfl, OwnLL.nil _ _, Below.refl _ _⟩
  · exact rcut_some b off n cap l level w (by rw [← hl]; exact ((M.chk_zero l).1 h0).1) h.2.1 h.2.2.1 h.1 hB hc
theorem step_append_row {w : World} {ops : Array Oper} {o : Oper} {a : Act} {K : Act → World → Prop} {Q : Exit → Act → World → Prop} {E : Prop} (hgd : o.guard = none) (s x : Operand)
    (ho : o.op = .call { callee := .builtin .append, args := #[s, x], argTypes := #[47, 47] })
    (base : Nat) (v : Value) (l : List (Int × Int)) (hs : a.eval s = v) (hown : Own w base v l)
    (ad : Addr) (r : Int × Int) (hx : a.eval x = .slice (some ad) 1 1) (hr : Rd w (some ad) 1 [r])
    (hbig : l.length + 1 ≤ 1000000) (hbase : base ≤ w.heap.size)
    (h : ∀ v' w', Own w' base v' (l ++ [r]) → Below base w w' → K (a.put o.dst v') w') : if Region.wanted o (yielded ops a.tmps) = true then Oper.wp Tryz.prog o a w K Q else E := by
  obtain ⟨i0, hi, hz0, hz1, hz2⟩ := info_parts infoRow
  have hm2 : (enc [r]).length = 1 * 2 := by rw [enc_length]; rfl
  have hnews : ∀ j u, (enc [r])[j]? = some u → w.cell? (ad.add j) = some u := by
    rcases hr.cases with ⟨h1, _⟩ | ⟨b, off, hab, hn, hl, hB, hc⟩
    · omega
    · obtain rfl : ad = ⟨b, off, none⟩ := by simpa using hab
      exact Rd.enc hl hc
  refine step_append_lies w hgd s x 47 ho base 56 i0 (.agg #[.int .i64 0, .int .i64 0]) 2 16 Tryz.underlying47 hi hz0 hz1 hz2 rfl (by decide) v l.length (enc l) hs hown ad 1 1 (enc [r]) hx hm2 hnews (enc_one [r])
    (by decide) (by simp only [maxLen]; omega) (by omega) hbase _ rfl ?_
  intro g cap w' h1 h2 _ _
  refine h _ w' ?_ ((Below.refl _ _).grown h2 hbase fun k hk => (World.ownsRow.lt hown k hk).1)
  unfold Own
  rw [enc_append, List.length_append]
  exact h1
theorem rbuild_none (a : Option Addr) (cap : Nat) (w : World) :
    Calls Tryz.prog 54 #[.slice a 0 cap] w fun e w' => e = .returned (.slice none 0 0) ∧ Below w.heap.size w w' := by
  go_enter Tryz.func54, Tryz.ntmps54
  go_wp2
  refine wp_loop_rounds 1 ?_
  rw [rounds_succ]
  go_wp2
  go_ret
  exact ⟨rfl, Below.refl _ _⟩
set_option maxRecDepth 10000 in
set_option maxHeartbeats 8000000 in
theorem rbuild_some (b0 off0 n cap : Nat) (l : List (Int × Int)) (w : World) (h : Sl w (some ⟨b0, off0, none⟩) n cap l) (hn0 : 0 < n) (h0 : M.chk l = 0) :
    Calls Tryz.prog 54 #[.slice (some ⟨b0, off0, none⟩) n cap] w fun e w' => ∃ v, e = .returned v ∧ OwnT w' w.heap.size v (M.build l) ∧ Below w.heap.size w w' := by
  obtain ⟨i0, hi, hz0, hz1, hz2⟩ := info_parts infoLevels
  have hn40 : n ≤ 40 := by rw [← h.1.1]; exact ((M.chk_zero l).1 h0).1
  have HS : Aside (Sl w (some ⟨b0, off0, none⟩) n cap l) := h
  have HZ : Aside (M.chk l = 0) := h0
  clear h h0
  go_enter Tryz.func54, Tryz.ntmps54
  have b1 := Below.refl w.heap.size w
  go_wp2
  go_loopg [0, 3] n (fun g vl v wr => ∃ (b off ln c k : Nat) (ll : List (Int × Int)) (T : List (List (List (Int × Int)))), vl = .slice (some ⟨b, off, none⟩) ln c ∧ ln ≤ g ∧ 0 < ln ∧ ln ≤ 40 ∧ k + M.lvl ln ≤ 6 ∧ Aside (T.length = k) ∧ Aside (Sl wr (some ⟨b, off, none⟩) ln c ll) ∧ Aside (M.chk ll = 0) ∧ Aside (OwnT wr w.heap.size v T) ∧ Aside (T ++ M.buildF ln k ll = M.build l) ∧ Below w.heap.size w wr)
  case atStart => exact ⟨b0, off0, n, cap, 0, l, [], rfl, Nat.le_refl _, hn0, hn40, by have := (M.lvl_six n).2; omega, rfl, HS.out.below b1, HZ, OwnT.nil _ _, by unfold Aside; rw [List.nil_append, M.build, HS.out.1.1], b1⟩
  case round =>
    obtain ⟨b, off, ln, c, k, ll, T, rfl, hlg, hln0, hln, hkl, HT, HSl, HCk, HO, HE, hbel⟩ := hrel
    have hsz := hbel.size
    have hk6 : k ≤ 5 := by have := (M.lvl_six ln).1; omega
    obtain ⟨ta, tn, tc, htv, htS⟩ := HO.out.tv
    obtain rfl : tn = k := by rw [← HT.out]; exact htS.1.1.symm
    subst htv
    have hne : ll ≠ [] := fun e => by have := HSl.out.1.1; rw [e] at this; simp at this; omega
    have HB : Aside (b < wr.heap.size) := by
      rcases HSl.out.1.cases with ⟨e, _⟩ | ⟨b', off', e, _, _, hB, _⟩
      · omega
      · obtain ⟨rfl, rfl⟩ : b = b' ∧ off = off' := by simpa using e
        exact hB
    have HC := rcut_any (some ⟨b, off, none⟩) ln c ll (tn : Int) wr HSl.out HCk.out
    obtain ⟨LL, hLL⟩ : ∃ LL, LL = M.cut (tn : Int) ll := ⟨_, rfl⟩
    rw [← hLL] at HC
    have HC1 : Aside (Calls Tryz.prog 103 #[.slice (some ⟨b, off, none⟩) ln c, .int .i64 tn] wr fun e w' => ∃ v, e = .returned v ∧ OwnLL w' wr.heap.size v LL ∧ Below wr.heap.size wr w') := HC
    have HLL : Aside (LL = M.cut (tn : Int) ll) := hLL
    have hLp : 0 < LL.length := by rw [hLL]; exact M.cut_pos _ ll hne
    have hLh : LL.length ≤ (ln + 1) / 2 := by rw [hLL, ← HSl.out.1.1]; exact M.cut_half _ ll
    have HNe : Aside (ll ≠ []) := hne
    obtain ⟨N, hN⟩ : ∃ N, N = LL.length := ⟨_, rfl⟩
    rw [← hN] at hLp hLh
    have HN : Aside (N = LL.length) := hN
    clear HC hLL hne hN htS
    go_wp2_with fail
    refine HC1.out.mono ?_
    rintro e w2 ⟨lv, rfl, holl, b2⟩
    obtain ⟨la, ln', lc, rfl, hlv⟩ := holl.lv
    obtain rfl : ln' = N := by rw [HN.out]; exact hlv.1.1.symm
    have HOLL : Aside (OwnLL w2 w.heap.size (.slice la ln' lc) LL) := holl.mono hsz
    have HOT2 : Aside (OwnT w2 w.heap.size (.slice ta tn tc) T) := HO.out.kept (grown_none b2) (fun r e => by cases e)
    obtain ⟨vals, hrow, hel⟩ := HOT2.out
    have HRow : Aside (w2.ownsRow w.heap.size 59 1 (.slice ta tn tc) T.length vals) := hrow
    have HEl : Aside (∀ i u, vals[i]? = some u → OwnLL w2 w.heap.size u (T.getD i [])) := hel
    have hb2 : Below w.heap.size w w2 := hbel.trans (b2.mono hsz)
    clear holl hlv hrow hel b2 HC1
    by_cases h1 : ln' = 1
    · have h1b : ((ln' : Int) == 1) = true := by simp [h1]
      have EB : Aside (T ++ [LL] = M.build l) := by
        unfold Aside
        rw [← HE.out]
        obtain ⟨f, rfl⟩ : ∃ f, ln = f + 1 := ⟨ln - 1, by omega⟩
        rw [M.buildF_one f tn ll HNe.out (by rw [← HLL.out, ← HN.out, h1]), HLL.out]
      clear h1
      go_wp2_with (at_builtin; refine wpList_append_own _ rfl _ _ 50 rfl w.heap.size 59 i0 (.slice none 0 0) 1 24 Tryz.underlying50 hi hz0 hz1 hz2 rfl (by decide) _ T.length vals rfl (World.ownsRow.alloc HRow.out _) ⟨w2.heap.size, 0, none⟩ 1 1 [.slice la ln' lc] rfl rfl (cell_one_new _ _ _) (by simp [Value.oneCell']) (by rw [HT.out]; simp [maxLen]; omega) (by rw [HT.out]; omega) (by have := hb2.size; simp; omega) ?_)
      intro v3 w3 hown3 hgrow3 _
      obtain ⟨hot3, hll3⟩ := OwnT.append HRow.out HEl.out HOLL.out hown3 hgrow3
      have HOT3 : Aside (OwnT w3 w.heap.size v3 (M.build l)) := by unfold Aside; rw [← EB.out]; exact hot3
      have hb3 : Below w.heap.size w w3 := (hb2.alloc hb2.size _).grown hgrow3 (by have := hb2.size; simp; omega) (fun r e => (World.ownsRow.lt HRow.out r e).1)
      clear hown3 hgrow3 hot3 hll3
      go_wp2
      go_ret
      exact ⟨_, rfl, HOT3.out, hb3⟩
    · have h1b : ((ln' : Int) == 1) = false := by simp; omega
      have HNE : Aside (∀ c ∈ LL, c ≠ []) := by unfold Aside; rw [HLL.out]; exact M.cut_ne _ ll
      have HCH : Aside (∀ c ∈ LL, M.chk c = 0) := by unfold Aside; rw [HLL.out]; exact M.cut_chk HCk.out
      have HTC : Aside (M.chk (M.tell LL) = 0) := by unfold Aside; rw [HLL.out]; exact M.tell_cut_chk HCk.out
      have EB : Aside ((T ++ [LL]) ++ M.buildF ln' (tn + 1) (M.tell LL) = M.build l) := by
        unfold Aside
        rw [← HE.out]
        obtain ⟨f, rfl⟩ : ∃ f, ln = f + 1 := ⟨ln - 1, by omega⟩
        rw [M.buildF_more f tn ll HNe.out (by rw [← HLL.out, ← HN.out]; exact h1), HLL.out, List.append_assoc, List.singleton_append, ← HLL.out]
        rw [M.buildF_fuel ln' f (tn + 1) (M.tell LL) (by rw [M.tell_length, ← HN.out]; exact Nat.le_refl _) (by rw [M.tell_length, ← HN.out]; omega)]
      have hlv1 : ln' < ln := by omega
      have hlv2 : tn + 1 + M.lvl ln' ≤ 6 := by
        have e1 := M.lvl_mono ln' ((ln + 1) / 2) hLh
        have e2 := M.lvl_step ln hln (by omega)
        omega
      go_wp2_with (at_builtin; refine wpList_append_own _ rfl _ _ 50 rfl w.heap.size 59 i0 (.slice none 0 0) 1 24 Tryz.underlying50 hi hz0 hz1 hz2 rfl (by decide) _ T.length vals rfl (World.ownsRow.alloc HRow.out _) ⟨w2.heap.size, 0, none⟩ 1 1 [.slice la ln' lc] rfl rfl (cell_one_new _ _ _) (by simp [Value.oneCell']) (by rw [HT.out]; simp [maxLen]; omega) (by rw [HT.out]; omega) (by have := hb2.size; simp; omega) ?_)
      intro v3 w3 hown3 hgrow3 _
      obtain ⟨hot3, hll3⟩ := OwnT.append HRow.out HEl.out HOLL.out hown3 hgrow3
      have HOT3 : Aside (OwnT w3 w.heap.size v3 (T ++ [LL])) := hot3
      have hb3 : Below w.heap.size w w3 := (hb2.alloc hb2.size _).grown hgrow3 (by have := hb2.size; simp; omega) (fun r e => (World.ownsRow.lt HRow.out r e).1)
      obtain ⟨la', ln'', lc', hle, hlv3⟩ := hll3.lv
      obtain ⟨rfl, rfl, rfl⟩ : la = la' ∧ ln' = ln'' ∧ lc = lc' := by simpa using hle
      obtain ⟨lb, lo, rfl⟩ : ∃ lb lo, la = some ⟨lb, lo, none⟩ := by
        rcases hlv3.1.2 with e | ⟨b', o', e, _⟩
        · omega
        · exact ⟨b', o', e⟩
      have HLV : Aside (Lv w3 (some ⟨lb, lo, none⟩) ln' LL) := hlv3.1
      have HLB : Aside (lb < w3.heap.size) := (hlv3.1.at hLp).1
      clear hown3 hgrow3 hot3 hll3 hle hlv3 HRow HEl HOLL HOT2 hb2 h1
      go_wp2
      go_loopg [0, 5] ln' (fun g v i wr => ∃ k : Nat, k + g = ln' ∧ i = .int .i64 k ∧ Aside (Own wr w3.heap.size v (M.tell (LL.take k))) ∧ Below w3.heap.size w3 wr)
      case atStart => exact ⟨0, by omega, rfl, World.ownsRow_nil _ _ _ _, Below.refl _ _⟩
      case round =>
        obtain ⟨k, hk, rfl, HI, hin⟩ := hrel
        have hsz3 := hin.size
        by_cases hlt : k < ln'
        · obtain ⟨a', n', c', q1, s1⟩ := (HLV.out.at hLp).2 k hlt
          have hmem : LL.getD k [] ∈ LL := by rw [List.getD, List.getElem?_eq_getElem (by rw [← HN.out]; exact hlt)]; simp
          obtain ⟨x, hx⟩ : ∃ x, x = LL.getD k [] := ⟨_, rfl⟩
          rw [← hx] at s1 hmem
          have hxne := HNE.out x hmem
          have hxc := HCH.out x hmem
          have sw := s1.below hin
          rcases sw.1.cases with ⟨_, e⟩ | ⟨xb, xo, rfl, hxn, hxl, hxB, hxc2⟩
          · exact absurd e hxne
          have hx40 : n' ≤ 40 := by rw [← hxl]; exact ((M.chk_zero x).1 hxc).1
          have qc : wr.cell? ⟨lb, lo + k, none⟩ = some (.slice (some ⟨xb, xo, none⟩) n' c') := (hin.cell (p := ⟨lb, lo + k, none⟩) HLB.out).trans q1
          obtain ⟨m, rfl⟩ : ∃ m, n' = m + 1 := ⟨n' - 1, by omega⟩
          have hkey := (hxc2 m (by omega)).1
          obtain ⟨s, hs⟩ : ∃ s, s = M.sum x := ⟨_, rfl⟩
          obtain ⟨ky, hky⟩ : ∃ ky, ky = (x.getD m (0, 0)).1 := ⟨_, rfl⟩
          rw [← hky] at hkey
          have hxB3 : xb < w3.heap.size := by
            rcases s1.1.cases with ⟨_, e⟩ | ⟨xb', xo', e, _, _, hB3, _⟩
            · exact absurd e hxne
            · obtain ⟨rfl, rfl⟩ : xb = xb' ∧ xo = xo' := by simpa using e
              exact hB3
          have HS : Aside (∀ W, Later wr W → Calls Tryz.prog 104 #[.slice (some ⟨xb, xo, none⟩) (m + 1) c'] W fun e w' => e = .returned (.int .i64 s) ∧ Later wr w') := fun W hW => by
            rw [hs]
            refine (rsum_any (some ⟨xb, xo, none⟩) (m + 1) c' x W (sw.1.below hW.out (Nat.le_refl _)) hxc).mono ?_
            rintro e w' ⟨rfl, hb⟩
            exact ⟨rfl, hW.out.trans (hb.mono hW.out.size)⟩
          have HKey : Aside (∀ W, Below w3.heap.size wr W → W.cell? ⟨lb, lo + k, none⟩ = some (.slice (some ⟨xb, xo, none⟩) (m + 1) c') ∧ W.cell? ⟨xb, xo + m * 2, none⟩ = some (.int .i64 ky)) := fun W hW => ⟨(hW.cell (p := ⟨lb, lo + k, none⟩) HLB.out).trans qc, (hW.cell (p := ⟨xb, xo + m * 2, none⟩) hxB3).trans hkey⟩
          have ET : Aside (M.tell (LL.take (k + 1)) = M.tell (LL.take k) ++ [(ky, s)]) := by
            unfold Aside
            rw [tell_snoc LL k (by rw [← HN.out]; exact hlt), ← hx]
            have : M.tellOf x = (ky, s) := by unfold M.tellOf; rw [hxl, Nat.add_sub_cancel, hky, hs]
            rw [this]
          have HLen : Aside ((M.tell (LL.take k)).length + 1 ≤ 1000000) := by unfold Aside; rw [M.tell_length, List.length_take]; omega
          have hki : (k : Int) < (ln' : Int) := by omega
          have hm40 : (m : Int) ≤ 40 := by omega
          have hm0 : (0 : Int) ≤ (m : Int) := by omega
          have hm1 : (m : Int) < (m : Int) + 1 := by omega
          have hmw : IntKind.i64.wrap (m : Int) = (m : Int) := by rw [IntKind.wrap_i64]; omega
          have hmw2 : IntKind.i64.wrap ((m : Int) + 1 - 1) = (m : Int) := by rw [IntKind.wrap_i64]; omega
          have hmw3 : (m : Int) < ((m + 1 : Nat) : Int) := by omega
          clear q1 s1 sw hxc2 hs hky hxc hxne hmem hx hxl
          go_wp2_with fail
          go_region_held3 (fun W => W.cell? ⟨lb, lo + k, none⟩ = some (.slice (some ⟨xb, xo, none⟩) (m + 1) c') ∧ W.cell? ⟨xb, xo + m * 2, none⟩ = some (.int .i64 ky)) (first | (simp [*]; done) | exact hAnew.out | go_keep) (first | (go_at_call 104; refine (HS.out _ ((Below.refl _ _).drew)).mono ?_; rintro e w4 ⟨rfl, HL4⟩; have hAnew : Hid (w4.cell? ⟨lb, lo + k, none⟩ = some (.slice (some ⟨xb, xo, none⟩) (m + 1) c') ∧ w4.cell? ⟨xb, xo + m * 2, none⟩ = some (.int .i64 ky)) := HKey.out w4 (HL4.out.mono hsz3); obtain ⟨qc4, hkey4⟩ := hAnew.out; have hb4 : Below w3.heap.size w3 w4 := hin.trans (HL4.out.mono hsz3); have HI1 : Hid (Own (w4.alloc (.cells #[.int .i64 ky, .int .i64 s] 56)) w3.heap.size u0 (M.tell (LL.take k))) := World.ownsRow.alloc (ownsRow_other HI.out (grown_none HL4.out) (fun r e => by cases e)) _; have HR1 : Hid (Rd (w4.alloc (.cells #[.int .i64 ky, .int .i64 s] 56)) (some ⟨w4.heap.size, 0, none⟩) 1 [(ky, s)]) := one_rd w4 _ _) | (refine step_append_row rfl _ _ rfl w3.heap.size _ (M.tell (LL.take k)) rfl HI1.out ⟨w4.heap.size, 0, none⟩ (ky, s) rfl HR1.out HLen.out (by have := hb4.size; simp; omega) ?_; intro v5 w5 ho5 hb5; have hb6 : Below w3.heap.size w3 w5 := (hb4.alloc hb4.size _).trans hb5; have HB6 : Hid (Below w3.heap.size wr w5) := ((HL4.out.mono hsz3).alloc (by have := hb4.size; omega) _).trans hb5; obtain ⟨qc5, hkey5⟩ := HKey.out w5 HB6.out; have HO5 : Hid (Own w5 w3.heap.size v5 (M.tell (LL.take k) ++ [(ky, s)])) := ho5; clear ho5 hb5))
          have HO6 : Aside (Own w5 w3.heap.size v5 (M.tell (LL.take (k + 1)))) := by unfold Aside; rw [ET.out]; exact HO5.out
          clear HI1 HR1 HO5 hAnew qc4 hkey4 qc5 hkey5
          go_wp2
          go_roundg (gk - 1)
          case measure => omega
          case rel => exact ⟨k + 1, by omega, by go_num, HO6, hb6⟩
        · obtain rfl : k = ln' := by omega
          have HI1 : Aside (Own wr w3.heap.size u0 (M.tell LL)) := by
            have h5 := HI.out
            rw [List.take_of_length_le (by rw [← HN.out]; omega)] at h5
            exact h5
          obtain ⟨na, nc, rfl, hnr, hn1, hn2, hn3⟩ := HI1.out.rd
          have etl : (M.tell LL).length = k := by rw [M.tell_length]; exact HN.out.symm
          rw [etl] at hnr hn1 hn3
          rw [etl]
          have HSN : Aside (Sl wr na k nc (M.tell LL)) := ⟨hnr, hn1, hn2, hn3⟩
          obtain ⟨nb, no, rfl⟩ : ∃ nb no, na = some ⟨nb, no, none⟩ := by
            rcases HSN.out.1.cases with ⟨e, _⟩ | ⟨b', o', e, _⟩
            · omega
            · exact ⟨b', o', e⟩
          have HOT4 : Aside (OwnT wr w.heap.size v3 (T ++ [LL])) := HOT3.out.kept (grown_none hin) (fun r e => by cases e)
          have hb4 : Below w.heap.size w wr := hb3.trans (hin.mono hb3.size)
          have HTL : Aside ((T ++ [LL]).length = tn + 1) := by unfold Aside; rw [List.length_append, HT.out]; rfl
          clear hnr hn1 hn2 hn3 etl HI HI1 hk
          go_wp2
          go_roundg k
          case measure => omega
          case rel => exact ⟨nb, no, k, nc, tn + 1, M.tell LL, T ++ [LL], rfl, Nat.le_refl _, hLp, by omega, hlv2, HTL, HSN, HTC, HOT4, EB, hb4⟩
theorem rbuild_any (a : Option Addr) (n cap : Nat) (l : List (Int × Int)) (w : World) (h : Sl w a n cap l) (h0 : M.chk l = 0) :
    Calls Tryz.prog 54 #[.slice a n cap] w fun e w' => ∃ v, e = .returned v ∧ OwnT w' w.heap.size v (M.build l) ∧ Below w.heap.size w w' := by
  rcases h.1.cases with ⟨rfl, rfl⟩ | ⟨b, off, rfl, hn, _⟩
  · refine (rbuild_none a cap w).mono ?_
    rintro e w' ⟨rfl, hb⟩
    exact ⟨_, rfl, OwnT.nil _ _, hb⟩
  · exact rbuild_some b off n cap l w h hn h0
theorem buildOf_any (a : Option Addr) (n cap : Nat) (l : List (Int × Int)) (w : World) (h : Sl w a n cap l) :
    Calls Tryz.prog 20 #[.slice a n cap] w fun e w' => ∃ v, e = .returned (.tuple #[v, .int .i64 (M.chk l)]) ∧ OwnT w' w.heap.size v (if M.chk l = 0 then M.build l else []) ∧ Below w.heap.size w w' := by
  have H := error_any a n cap l w h.1 h.len
  obtain ⟨c, hc⟩ : ∃ c, c = M.chk l := ⟨_, rfl⟩
  by_cases h0 : M.chk l = 0
  · rw [if_pos h0, h0]
    rw [h0] at H
    have HS : Aside (Sl w a n cap l) := h
    have H0 : Aside (M.chk l = 0) := h0
    have HH : Aside (Calls Tryz.prog 16 #[.slice a n cap] w fun e w' => e = .returned (.int .i64 0) ∧ Below w.heap.size w w') := H
    clear H h h0 hc
    go_enter Tryz.func20, Tryz.ntmps20
    go_wp2_with (go_at_call 16; refine HH.out.mono ?_; rintro e w1 ⟨rfl, b1⟩)
    refine (rbuild_any a n cap l w1 (HS.out.below b1) H0.out).mono ?_
    rintro e w2 ⟨v, rfl, ho, b2⟩
    have HO : Aside (OwnT w2 w.heap.size v (M.build l)) := ho.mono b1.size
    have hb2 := below2 b1 b2
    clear ho
    go_wp2
    go_ret2
    exact ⟨_, rfl, HO.out, hb2⟩
  · rw [if_neg h0, ← hc]
    rw [← hc] at H h0
    have hne : (c != 0) = true := by simp [h0]
    have HH : Aside (Calls Tryz.prog 16 #[.slice a n cap] w fun e w' => e = .returned (.int .i64 c) ∧ Below w.heap.size w w') := H
    clear H h h0 hc
    go_enter Tryz.func20, Tryz.ntmps20
    go_wp2_with (go_at_call 16; refine HH.out.mono ?_; rintro e w1 ⟨rfl, b1⟩)
    go_ret2
    exact ⟨_, rfl, OwnT.nil _ _, b1⟩
end Go.Proofs.YtcgpgflnihjpiagGreat
