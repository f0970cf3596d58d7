/- Plain facts on trees. -/
import Derived.Test.YtcgpgflnihjpiacCut1
namespace Go.Proofs.Ytcgpgflnihjpiac.M

/-- The row that tells of a chunk. -/
def tellOf (c : List (Int × Int)) : Int × Int := ((c.getD (c.length - 1) (0, 0)).1, sum c)
def tell (LL : List (List (Int × Int))) : List (Int × Int) := LL.map tellOf
/-- The levels from a level on. -/
def buildF : Nat → Nat → List (Int × Int) → List (List (List (Int × Int)))
  | 0, _, _ => []
  | f + 1, k, l => if l = [] then [] else if (cut k l).length = 1 then [cut k l] else cut k l :: buildF f (k + 1) (tell (cut k l))
def build (l : List (Int × Int)) : List (List (List (Int × Int))) := buildF l.length 0 l

theorem tell_length (LL : List (List (Int × Int))) : (tell LL).length = LL.length := by simp [tell]

theorem cut_half (level : Int) (l : List (Int × Int)) : (cut level l).length ≤ (l.length + 1) / 2 := by
  obtain ⟨n, hn⟩ : ∃ n, l.length ≤ n := ⟨_, Nat.le_refl _⟩
  induction n generalizing l with
  | zero =>
    have : l = [] := List.eq_nil_of_length_eq_zero (by omega)
    subst this; simp [cut_nil]
  | succ n ih =>
    by_cases h : l = []
    · subst h; simp [cut_nil]
    · have hp := len_pos level l h
      have h2 := lenFrom_two level 0 l
      have := ih (l.drop (len level l)) (by rw [List.length_drop]; omega)
      rw [cut_step level l h, List.length_cons]
      rw [List.length_drop] at this
      rcases h2 with h2 | h2
      · have h3 : 2 ≤ len level l := h2
        omega
      · have h3 : len level l = 0 + l.length := h2
        have hd : l.drop (len level l) = [] := List.drop_eq_nil_of_le (by omega)
        rw [hd, cut_nil, List.length_nil]
        omega
theorem cut_pos (level : Int) (l : List (Int × Int)) (h : l ≠ []) : 0 < (cut level l).length := by
  rw [cut_step level l h, List.length_cons]; omega

/-- The keys of chunks that stand one behind the other rise. -/
theorem tell_ok (LL : List (List (Int × Int))) (h : Ok LL.flatten) (hne : ∀ c ∈ LL, c ≠ []) : Ok (tell LL) ∧ ∀ r ∈ tell LL, ∃ q ∈ LL.flatten, q.1 = r.1 := by
  induction LL with
  | nil => exact ⟨⟨by simp [tell], by simp [tell]⟩, by simp [tell]⟩
  | cons c t ih =>
    rw [List.flatten_cons] at h
    have hc := hne c (by simp)
    have hcl : 0 < c.length := List.length_pos_iff.2 hc
    have hp := List.pairwise_append.1 h.2
    have ht : Ok t.flatten := ⟨fun r hr => h.1 r (by simp [hr]), hp.2.1⟩
    obtain ⟨i1, i2⟩ := ih ht fun c hc => hne c (by simp [hc])
    have hlast : c.getD (c.length - 1) (0, 0) ∈ c := getD_mem c _ (by omega)
    have hk := h.1 _ (List.mem_append_left _ hlast)
    have hs := sumFrom_range 1 c (by omega) (by omega)
    refine ⟨⟨fun r hr => ?_, ?_⟩, fun r hr => ?_⟩
    · rcases List.mem_cons.1 hr with rfl | hr
      · exact ⟨hk.1, hk.2.1, hs.1, hs.2⟩
      · exact i1.1 r hr
    · refine List.pairwise_cons.2 ⟨fun r hr => ?_, i1.2⟩
      obtain ⟨q, hq, e⟩ := i2 r hr
      have := hp.2.2 _ hlast q hq
      show (c.getD (c.length - 1) (0, 0)).1 < r.1
      omega
    · rcases List.mem_cons.1 hr with rfl | hr
      · exact ⟨_, List.mem_append_left _ hlast, rfl⟩
      · obtain ⟨q, hq, e⟩ := i2 r hr
        exact ⟨q, List.mem_append_right _ hq, e⟩

theorem cut_ne (level : Int) (l : List (Int × Int)) : ∀ c ∈ cut level l, c ≠ [] := by
  intro c hc e
  obtain ⟨i, hi, h⟩ := List.mem_iff_getElem.1 hc
  have := (cut_lens level l i hi).1
  rw [show (cut level l).getD i [] = c by simp [List.getD, hi, h], e] at this
  simp at this
theorem tell_cut_chk {level : Int} {l : List (Int × Int)} (h : chk l = 0) : chk (tell (cut level l)) = 0 := by
  have hz := (chk_zero l).1 h
  have h1 := (tell_ok (cut level l) (by rw [cut_flat]; exact hz.2) (cut_ne level l)).1
  refine (chk_zero _).2 ⟨?_, h1⟩
  rw [tell_length]
  have := cut_length_le level l
  omega

theorem buildF_nil (f k : Nat) : buildF f k [] = [] := by cases f <;> simp [buildF]
theorem buildF_one (f k : Nat) (l : List (Int × Int)) (h : l ≠ []) (h1 : (cut k l).length = 1) : buildF (f + 1) k l = [cut k l] := by rw [buildF, if_neg h, if_pos h1]
theorem buildF_more (f k : Nat) (l : List (Int × Int)) (h : l ≠ []) (h1 : (cut k l).length ≠ 1) : buildF (f + 1) k l = cut k l :: buildF f (k + 1) (tell (cut k l)) := by rw [buildF, if_neg h, if_neg h1]
theorem buildF_fuel (f g k : Nat) (l : List (Int × Int)) (hf : l.length ≤ f) (hg : l.length ≤ g) : buildF f k l = buildF g k l := by
  induction f generalizing g k l with
  | zero =>
    have : l = [] := List.eq_nil_of_length_eq_zero (by omega)
    subst this; rw [buildF_nil, buildF_nil]
  | succ f ih =>
    by_cases h : l = []
    · subst h; rw [buildF_nil, buildF_nil]
    · have hlp : 0 < l.length := List.length_pos_iff.2 h
      obtain ⟨g, rfl⟩ : ∃ g', g = g' + 1 := ⟨g - 1, by omega⟩
      by_cases h1 : (cut k l).length = 1
      · rw [buildF_one f k l h h1, buildF_one g k l h h1]
      · have hh := cut_half k l
        have hp := cut_pos k l h
        rw [buildF_more f k l h h1, buildF_more g k l h h1, ih g (k + 1) (tell (cut k l)) (by rw [tell_length]; omega) (by rw [tell_length]; omega)]
/-- A bound on how many levels are still to come. -/
def lvl (n : Nat) : Nat := if n ≤ 2 then 1 else if n ≤ 4 then 2 else if n ≤ 8 then 3 else if n ≤ 16 then 4 else if n ≤ 32 then 5 else 6
theorem lvl_step (n : Nat) (h : n ≤ 40) (h2 : 2 < n) : lvl ((n + 1) / 2) + 1 ≤ lvl n := by
  unfold lvl
  (repeat' split) <;> omega
theorem lvl_mono (m n : Nat) (h : m ≤ n) : lvl m ≤ lvl n := by
  unfold lvl
  (repeat' split) <;> omega
theorem lvl_six (n : Nat) : 1 ≤ lvl n ∧ lvl n ≤ 6 := by
  unfold lvl
  (repeat' split) <;> omega
theorem cut_chk {level : Int} {l : List (Int × Int)} (h : chk l = 0) : ∀ c ∈ cut level l, chk c = 0 := by
  intro c hc
  have hz := (chk_zero l).1 h
  have hsub : List.Sublist c l := by
    have := List.sublist_flatten_of_mem hc
    rw [cut_flat] at this
    exact this
  refine (chk_zero c).2 ⟨?_, ?_⟩
  · have := hsub.length_le; omega
  · exact ⟨fun r hr => hz.2.1 r (hsub.subset hr), hz.2.2.sublist hsub⟩
end Go.Proofs.Ytcgpgflnihjpiac.M
