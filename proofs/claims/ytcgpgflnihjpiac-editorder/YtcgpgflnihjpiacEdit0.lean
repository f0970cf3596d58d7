/- Plain facts on editing: where an old chunk may stay. -/
import Derived.Test.YtcgpgflnihjpiacTree0
import Derived.Test.YtcgpgflnihjpiacPut1
namespace Go.Proofs.Ytcgpgflnihjpiac.M

theorem lenFrom_more (level : Int) (n : Nat) (c rest x : List (Int × Int)) (hc : c ≠ []) (hr : rest ≠ []) (h : lenFrom level n (c ++ rest) = n + c.length) : lenFrom level n (c ++ x) = n + c.length := by
  induction c generalizing n with
  | nil => exact absurd rfl hc
  | cons r t ih =>
    rw [List.cons_append, lenFrom] at h ⊢
    rw [List.length_cons] at h ⊢
    by_cases hs : n + 1 = 6 ∨ (2 ≤ n + 1 ∧ ends level r.1 r.2 = true)
    · rw [if_pos hs] at h ⊢
      exact h
    · rw [if_neg hs] at h ⊢
      cases t with
      | nil =>
        exfalso
        cases rest with
        | nil => exact hr rfl
        | cons q u =>
          rw [List.nil_append, lenFrom] at h
          split at h
          · simp at h
          · have := lenFrom_bound level (n + 1 + 1) u
            simp at h; omega
      | cons q u =>
        have := ih (n + 1) (by simp) (by rw [h]; omega)
        rw [this]; omega
theorem lenFrom_take (level : Int) (n : Nat) (l : List (Int × Int)) (hn : n < 6) : lenFrom level n (l.take (6 - n)) = lenFrom level n l := by
  induction l generalizing n with
  | nil => simp
  | cons r t ih =>
    obtain ⟨m, hm⟩ : ∃ m, 6 - n = m + 1 := ⟨5 - n, by omega⟩
    rw [hm, List.take_succ_cons, lenFrom, lenFrom]
    by_cases hs : n + 1 = 6 ∨ (2 ≤ n + 1 ∧ ends level r.1 r.2 = true)
    · rw [if_pos hs, if_pos hs]
    · rw [if_neg hs, if_neg hs]
      have := ih (n + 1) (by omega)
      rw [show 6 - (n + 1) = m by omega] at this
      exact this
theorem len_take (level : Int) (l : List (Int × Int)) : len level (l.take 6) = len level l := lenFrom_take level 0 l (by omega)
theorem len_le_six (level : Int) (l : List (Int × Int)) : len level l ≤ 6 := lenFrom_six level 0 l (by omega)
/-- The first chunk hangs on six rows. -/
theorem first_six (level : Int) (l : List (Int × Int)) : (l.take 6).take (len level (l.take 6)) = l.take (len level l) := by
  rw [len_take, List.take_take, Nat.min_eq_left (len_le_six level l)]

/-- An old chunk that stands at the beginning of rows is their first chunk. -/
theorem still_ok (level : Int) (lo : List (Int × Int)) (i : Nat) (hi : i < (cut level lo).length) (l c : List (Int × Int)) (hc : c = (cut level lo).getD i []) (hpre : c = l.take c.length) (hlen : c.length ≤ l.length)
    (hlast : ¬ (i + 1 = (cut level lo).length ∧ c.length < l.length)) : l.take (len level l) = c ∧ c ≠ [] := by
  have hb := cut_behind level lo i (by omega)
  obtain ⟨rest, hrest⟩ : ∃ rest, rest = lo.drop ((cut level lo).take i).flatten.length := ⟨_, rfl⟩
  rw [← hrest] at hb
  have hne : rest ≠ [] := fun e => by
    rw [e, cut_nil] at hb
    have := congrArg List.length hb
    rw [List.length_drop] at this
    simp at this; omega
  have hd : (cut level lo).drop i = c :: (cut level lo).drop (i + 1) := by rw [hc, List.drop_eq_getElem_cons hi]; simp [List.getD, hi]
  have hs := cut_step level rest hne
  rw [← hb, hd] at hs
  have e1 : c = rest.take (len level rest) := (List.cons.inj hs).1
  have e2 : (cut level lo).drop (i + 1) = cut level (rest.drop (len level rest)) := (List.cons.inj hs).2
  have hp := len_pos level rest hne
  have hcl : c.length = len level rest := by rw [e1, List.length_take]; omega
  have hcn : c ≠ [] := fun e => by rw [e] at hcl; simp at hcl; omega
  have hrc : rest = c ++ rest.drop c.length := by
    conv => lhs; rw [← List.take_append_drop (len level rest) rest, ← e1]
    rw [hcl]
  have hl : l = c ++ l.drop c.length := by
    conv => lhs; rw [← List.take_append_drop c.length l, ← hpre]
  refine ⟨?_, hcn⟩
  by_cases hlt : i + 1 < (cut level lo).length
  · have hr2 : rest.drop c.length ≠ [] := fun e => by
      rw [← hcl, e, cut_nil] at e2
      have := congrArg List.length e2
      rw [List.length_drop] at this
      simp at this; omega
    have h0 : lenFrom level 0 (c ++ rest.drop c.length) = 0 + c.length := by rw [← hrc, Nat.zero_add, hcl]; rfl
    have h1 := lenFrom_more level 0 c _ (l.drop c.length) hcn hr2 h0
    have h2 : len level l = c.length := by
      have : len level l = lenFrom level 0 l := rfl
      rw [this, hl, h1, Nat.zero_add]
    rw [h2]; exact hpre.symm
  · have hll : c.length = l.length := by
      by_cases h : c.length < l.length
      · exact absurd ⟨by omega, h⟩ hlast
      · omega
    have hlc : l = c := by
      rw [hpre, hll, List.take_length]
    have e3 : (cut level lo).drop (i + 1) = [] := List.drop_eq_nil_of_le (by omega)
    rw [e3] at e2
    have hr3 : rest.drop (len level rest) = [] := by
      by_cases h : rest.drop (len level rest) = []
      · exact h
      · have := cut_pos level _ h
        rw [← e2] at this; simp at this
    have hrl : rest = c := by rw [hrc, hcl, hr3, List.append_nil]
    rw [hlc, ← hrl, ← e1, hrl]

/-- Each level of a tree is cut from rows. -/
theorem buildF_cut (f k : Nat) (l : List (Int × Int)) (i : Nat) (hi : i < (buildF f k l).length) : ∃ lo, (buildF f k l).getD i [] = cut ((k + i : Nat) : Int) lo := by
  induction f generalizing k l i with
  | zero => simp [buildF] at hi
  | succ f ih =>
    by_cases hl : l = []
    · subst hl; rw [buildF_nil] at hi; simp at hi
    · by_cases h1 : (cut k l).length = 1
      · rw [buildF_one f k l hl h1] at hi ⊢
        obtain rfl : i = 0 := by simpa using hi
        exact ⟨l, rfl⟩
      · rw [buildF_more f k l hl h1] at hi ⊢
        cases i with
        | zero => exact ⟨l, rfl⟩
        | succ i =>
          obtain ⟨lo, h⟩ := ih (k + 1) (tell (cut k l)) i (by simpa using hi)
          refine ⟨lo, ?_⟩
          rw [show k + (i + 1) = k + 1 + i by omega]
          simpa using h
theorem build_cut (l : List (Int × Int)) (i : Nat) : ∃ lo, (build l).getD i [] = cut (i : Int) lo := by
  by_cases hi : i < (build l).length
  · obtain ⟨lo, h⟩ := buildF_cut l.length 0 l i hi
    exact ⟨lo, by rw [Nat.zero_add] at h; exact h⟩
  · refine ⟨[], ?_⟩
    rw [cut_nil]
    simp [List.getD, List.getElem?_eq_none (show (build l).length ≤ i by omega)]

/-- Edits, one by one: the error of the first that has one; what comes. -/
def editsE : List (Int × Int) → List (Int × Int) → Int
  | _, [] => 0
  | l, e :: t => if putE l e.1 e.2 ≠ 0 then putE l e.1 e.2 else editsE (put e.1 e.2 l) t
def editsV : List (Int × Int) → List (Int × Int) → List (Int × Int)
  | l, [] => l
  | l, e :: t => editsV (put e.1 e.2 l) t
theorem put_chk {l : List (Int × Int)} {key val : Int} (h : putE l key val = 0) : chk (put key val l) = 0 := by
  obtain ⟨h1, h2, h3, h4⟩ := putE_zero h
  obtain ⟨k1, k2, k3⟩ := asked_zero h1
  exact (chk_zero _).2 ⟨h4, put_ok ((chk_zero l).1 k1).2 k2 k3 h2 h3⟩
theorem edits_chk (l E : List (Int × Int)) (h0 : chk l = 0) (h : editsE l E = 0) : chk (editsV l E) = 0 := by
  induction E generalizing l with
  | nil => exact h0
  | cons e t ih =>
    rw [editsE] at h
    by_cases hp : putE l e.1 e.2 = 0
    · rw [if_neg (by omega)] at h
      exact ih _ (put_chk hp) h
    · rw [if_pos hp] at h; exact absurd h hp
end Go.Proofs.Ytcgpgflnihjpiac.M
