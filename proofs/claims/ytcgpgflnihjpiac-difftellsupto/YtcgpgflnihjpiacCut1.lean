/- Plain facts: all chunks are all rows; each is as long as it may be; what stands behind a chunk is cut as it would be alone. -/
import Derived.Test.YtcgpgflnihjpiacCutA
namespace Go.Proofs.Ytcgpgflnihjpiac.M

theorem lenFrom_six (level : Int) (n : Nat) (l : List (Int × Int)) (h : n ≤ 5) : lenFrom level n l ≤ 6 := by
  induction l generalizing n with
  | nil => simp [lenFrom]; omega
  | cons r t ih =>
    rw [lenFrom]
    split
    · omega
    · by_cases h5 : n = 5
      · subst h5; rename_i hs; exact absurd (Or.inl rfl) hs
      · exact ih (n + 1) (by omega)
theorem lenFrom_two (level : Int) (n : Nat) (l : List (Int × Int)) : 2 ≤ lenFrom level n l ∨ lenFrom level n l = n + l.length := by
  induction l generalizing n with
  | nil => right; simp [lenFrom]
  | cons r t ih =>
    rw [lenFrom]
    split
    · rename_i hs; left; omega
    · rcases ih (n + 1) with h | h
      · exact Or.inl h
      · right; rw [h, List.length_cons]; omega

theorem cut_flat (level : Int) (l : List (Int × Int)) : (cut level l).flatten = l := by
  obtain ⟨n, hn⟩ : ∃ n, l.length ≤ n := ⟨_, Nat.le_refl _⟩
  induction n generalizing l with
  | zero =>
    have : l = [] := List.eq_nil_of_length_eq_zero (by omega)
    subst this; rfl
  | succ n ih =>
    by_cases h : l = []
    · subst h; rfl
    · have hp := len_pos level l h
      rw [cut_step level l h, List.flatten_cons, ih _ (by rw [List.length_drop]; omega), List.take_append_drop]

/-- The lengths of chunks. -/
theorem cut_lens (level : Int) (l : List (Int × Int)) (i : Nat) (hi : i < (cut level l).length) : 1 ≤ ((cut level l).getD i []).length ∧ ((cut level l).getD i []).length ≤ 6 ∧ (i + 1 < (cut level l).length → 2 ≤ ((cut level l).getD i []).length) := by
  obtain ⟨n, hn⟩ : ∃ n, l.length ≤ n := ⟨_, Nat.le_refl _⟩
  induction n generalizing l i with
  | zero =>
    have : l = [] := List.eq_nil_of_length_eq_zero (by omega)
    subst this; simp [cut_nil] at hi
  | succ n ih =>
    by_cases h : l = []
    · subst h; simp [cut_nil] at hi
    · have hp := len_pos level l h
      have e := cut_step level l h
      rw [e] at hi ⊢
      cases i with
      | zero =>
        have h6 := lenFrom_six level 0 l (by omega)
        have h2 := lenFrom_two level 0 l
        have el : ((l.take (len level l) :: cut level (l.drop (len level l))).getD 0 []).length = len level l := by simp; omega
        rw [el]
        refine ⟨hp.1, h6, fun hm => ?_⟩
        rcases h2 with h2 | h2
        · exact h2
        · exfalso
          have hd : l.drop (len level l) = [] := List.drop_eq_nil_of_le (by unfold len; omega)
          rw [hd] at hm
          simp [cut_nil] at hm
      | succ i =>
        have := ih (l.drop (len level l)) i (by simpa using hi) (by rw [List.length_drop]; omega)
        have el : (l.take (len level l) :: cut level (l.drop (len level l))).getD (i + 1) [] = (cut level (l.drop (len level l))).getD i [] := by simp
        rw [el]
        refine ⟨this.1, this.2.1, fun hm => this.2.2 (by simpa using hm)⟩

/-- What stands behind chunks is cut as it would be alone. -/
theorem cut_behind (level : Int) (l : List (Int × Int)) (i : Nat) (hi : i ≤ (cut level l).length) : (cut level l).drop i = cut level (l.drop ((cut level l).take i).flatten.length) := by
  induction i generalizing l with
  | zero => simp
  | succ i ih =>
    by_cases h : l = []
    · subst h; simp [cut_nil]
    · have hp := len_pos level l h
      have e := cut_step level l h
      rw [e] at hi ⊢
      rw [List.drop_succ_cons, List.take_succ_cons, List.flatten_cons, List.length_append, List.length_take, Nat.min_eq_left hp.2, ih _ (by simpa using hi), List.drop_drop]

theorem cut_skip_lt (level : Int) (l : List (Int × Int)) (i : Nat) (hi : i < (cut level l).length) : ((cut level l).take i).flatten.length < l.length := by
  have h1 := cut_lens level l i hi
  have h2 := flat_take (cut level l) i hi
  have h3 := flat_le (cut level l) (i + 1)
  rw [h2, List.length_append, cut_flat] at h3
  omega
theorem cut_length_le (level : Int) (l : List (Int × Int)) : (cut level l).length ≤ l.length := by
  obtain ⟨n, hn⟩ : ∃ n, l.length ≤ n := ⟨_, Nat.le_refl _⟩
  induction n generalizing l with
  | zero =>
    have : l = [] := List.eq_nil_of_length_eq_zero (by omega)
    subst this; simp [cut_nil]
  | succ n ih =>
    by_cases h : l = []
    · subst h; simp [cut_nil]
    · have hp := len_pos level l h
      have := ih (l.drop (len level l)) (by rw [List.length_drop]; omega)
      rw [cut_step level l h, List.length_cons]
      rw [List.length_drop] at this
      omega

theorem chk_drop {l : List (Int × Int)} (h : chk l = 0) (i : Nat) : chk (l.drop i) = 0 := by
  have hz := (chk_zero l).1 h
  refine (chk_zero _).2 ⟨by rw [List.length_drop]; omega, fun r hr => hz.2.1 r (List.mem_of_mem_drop hr), hz.2.2.sublist (List.drop_sublist i l)⟩
theorem cutE_zero {l : List (Int × Int)} {level : Int} (h : cutE l level = 0) : chk l = 0 ∧ 0 ≤ level ∧ level ≤ 9 := by
  unfold cutE at h
  split at h
  · omega
  · split at h
    · omega
    · omega
end Go.Proofs.Ytcgpgflnihjpiac.M
