/- Plain facts: what is put is found, all else is as it was; of two keys it does not matter which is put first. -/
import Derived.Test.YtcgpgflnihjpiacPut0
namespace Go.Proofs.Ytcgpgflnihjpiac.M

theorem mem_lows {key : Int} {l : List (Int × Int)} {r : Int × Int} : r ∈ lows key l ↔ r ∈ l ∧ r.1 < key := by simp [lows]
theorem mem_highs {key : Int} {l : List (Int × Int)} {r : Int × Int} : r ∈ highs key l ↔ r ∈ l ∧ key < r.1 := by simp [highs]
theorem mem_own {key val : Int} {r : Int × Int} : r ∈ own key val ↔ val ≠ -1 ∧ r = (key, val) := by
  unfold own; split <;> simp_all
theorem mem_put {key val : Int} {l : List (Int × Int)} {r : Int × Int} : r ∈ put key val l ↔ (r ∈ l ∧ r.1 ≠ key) ∨ (val ≠ -1 ∧ r = (key, val)) := by
  unfold put
  rw [List.mem_append, List.mem_append, mem_lows, mem_highs, mem_own]
  constructor
  · rintro ((⟨h1, h2⟩ | h) | ⟨h1, h2⟩)
    · exact Or.inl ⟨h1, by omega⟩
    · exact Or.inr h
    · exact Or.inl ⟨h1, by omega⟩
  · rintro (⟨h1, h2⟩ | h)
    · rcases Int.lt_or_gt_of_ne h2 with h | h
      · exact Or.inl (Or.inl ⟨h1, h⟩)
      · exact Or.inr ⟨h1, h⟩
    · exact Or.inl (Or.inr h)

theorem put_ok {key val : Int} {l : List (Int × Int)} (ok : Ok l) (h0 : 0 ≤ key) (h1 : key ≤ 99) (v0 : -1 ≤ val) (v1 : val ≤ 996) : Ok (put key val l) := by
  refine ⟨fun r hr => ?_, ?_⟩
  · rcases mem_put.1 hr with ⟨h, _⟩ | ⟨h, rfl⟩
    · exact ok.1 r h
    · exact ⟨h0, h1, by show 0 ≤ val; omega, v1⟩
  · unfold put
    rw [List.pairwise_append, List.pairwise_append]
    refine ⟨⟨ok.2.sublist List.filter_sublist, ?_, ?_⟩, ok.2.sublist List.filter_sublist, ?_⟩
    · unfold own; split <;> simp
    · intro x hx y hy
      have h2 := (mem_lows.1 hx).2
      obtain ⟨_, rfl⟩ := mem_own.1 hy
      exact h2
    · intro x hx y hy
      have h2 := (mem_highs.1 hy).2
      rcases List.mem_append.1 hx with hx | hx
      · have := (mem_lows.1 hx).2; omega
      · obtain ⟨_, rfl⟩ := mem_own.1 hx
        exact h2

theorem find_range {key : Int} {l : List (Int × Int)} (ok : Ok l) : -1 ≤ find key l ∧ find key l ≤ 996 := by
  by_cases h : ∃ r ∈ l, r.1 = key
  · obtain ⟨r, hr, e⟩ := h
    rw [find_mem key l ok.2 r hr e]
    have := ok.1 r hr; omega
  · rw [find_none key l fun r hr e => h ⟨r, hr, e⟩]; omega

theorem find_put_same {key val : Int} {l : List (Int × Int)} (ok : Ok l) (h0 : 0 ≤ key) (h1 : key ≤ 99) (v0 : -1 ≤ val) (v1 : val ≤ 996) : find key (put key val l) = val := by
  by_cases hv : val = -1
  · rw [hv]
    refine find_none _ _ fun r hr e => ?_
    rcases mem_put.1 hr with ⟨_, h⟩ | ⟨h, _⟩
    · exact h e
    · exact h rfl
  · exact find_mem key _ (put_ok ok h0 h1 v0 v1).2 (key, val) (mem_put.2 (Or.inr ⟨hv, rfl⟩)) rfl

theorem find_put_other {key val k : Int} {l : List (Int × Int)} (ok : Ok l) (h0 : 0 ≤ key) (h1 : key ≤ 99) (v0 : -1 ≤ val) (v1 : val ≤ 996) (hk : k ≠ key) : find k (put key val l) = find k l := by
  by_cases h : ∃ r ∈ l, r.1 = k
  · obtain ⟨r, hr, e⟩ := h
    rw [find_mem k l ok.2 r hr e]
    exact find_mem k _ (put_ok ok h0 h1 v0 v1).2 r (mem_put.2 (Or.inl ⟨hr, by omega⟩)) e
  · rw [find_none k l fun r hr e => h ⟨r, hr, e⟩]
    refine find_none _ _ fun r hr e => ?_
    rcases mem_put.1 hr with ⟨hr, _⟩ | ⟨_, rfl⟩
    · exact h ⟨r, hr, e⟩
    · exact hk e.symm

/-- Two lists of right rows of which each key has the same value are the same. -/
theorem ext (a b : List (Int × Int)) (ha : Ok a) (hb : Ok b) (h : ∀ k, find k a = find k b) : a = b := by
  induction a generalizing b with
  | nil =>
    cases b with
    | nil => rfl
    | cons r t =>
      have h1 := h r.1
      rw [find, find, if_pos rfl] at h1
      have := hb.1 r (by simp); omega
  | cons q s ih =>
    cases b with
    | nil =>
      have h1 := h q.1
      rw [find, find, if_pos rfl] at h1
      have := ha.1 q (by simp); omega
    | cons r t =>
      have hq := ha.1 q (by simp)
      have hr := hb.1 r (by simp)
      have e1 : q.1 = r.1 := by
        rcases Int.lt_trichotomy q.1 r.1 with hlt | he | hgt
        · have h1 := h q.1
          rw [find, if_pos rfl, find_none q.1 (r :: t)] at h1
          · omega
          · intro x hx
            rcases List.mem_cons.1 hx with rfl | hx
            · omega
            · have := hb.head x hx; omega
        · exact he
        · have h1 := h r.1
          rw [find_none r.1 (q :: s), find, if_pos rfl] at h1
          · omega
          · intro x hx
            rcases List.mem_cons.1 hx with rfl | hx
            · omega
            · have := ha.head x hx; omega
      have e2 : q.2 = r.2 := by
        have h1 := h q.1
        rw [find, if_pos rfl, find, if_pos e1.symm] at h1
        exact h1
      have e : q = r := Prod.ext e1 e2
      subst e
      rw [ih t ha.tail hb.tail fun k => ?_]
      by_cases hk : q.1 = k
      · subst hk
        rw [find_none q.1 s fun x hx => by have := ha.head x hx; omega, find_none q.1 t fun x hx => by have := hb.head x hx; omega]
      · have h1 := h k
        rwa [find, if_neg hk, find, if_neg hk] at h1

/-- Of two keys it does not matter which is put first. -/
theorem put_comm {a u b v : Int} {l : List (Int × Int)} (ok : Ok l) (a0 : 0 ≤ a) (a1 : a ≤ 99) (u0 : -1 ≤ u) (u1 : u ≤ 996) (b0 : 0 ≤ b) (b1 : b ≤ 99) (v0 : -1 ≤ v) (v1 : v ≤ 996) (hab : a ≠ b) : put b v (put a u l) = put a u (put b v l) := by
  have oa := put_ok ok a0 a1 u0 u1
  have ob := put_ok ok b0 b1 v0 v1
  refine ext _ _ (put_ok oa b0 b1 v0 v1) (put_ok ob a0 a1 u0 u1) fun k => ?_
  by_cases h1 : k = a
  · subst h1
    rw [find_put_other oa b0 b1 v0 v1 hab, find_put_same ok a0 a1 u0 u1, find_put_same ob a0 a1 u0 u1]
  · by_cases h2 : k = b
    · subst h2
      rw [find_put_same oa b0 b1 v0 v1, find_put_other ob a0 a1 u0 u1 h1, find_put_same ok b0 b1 v0 v1]
    · rw [find_put_other oa b0 b1 v0 v1 h2, find_put_other ok a0 a1 u0 u1 h1, find_put_other ob a0 a1 u0 u1 h1, find_put_other ok b0 b1 v0 v1 h2]

/-- Put as it was, nothing has changed. -/
theorem put_back {a u : Int} {l : List (Int × Int)} (ok : Ok l) (a0 : 0 ≤ a) (a1 : a ≤ 99) (u0 : -1 ≤ u) (u1 : u ≤ 996) : put a (find a l) (put a u l) = l := by
  have oa := put_ok ok a0 a1 u0 u1
  have hr := find_range (key := a) ok
  refine ext _ _ (put_ok oa a0 a1 hr.1 hr.2) ok fun k => ?_
  by_cases h1 : k = a
  · subst h1; rw [find_put_same oa a0 a1 hr.1 hr.2]
  · rw [find_put_other oa a0 a1 hr.1 hr.2 h1, find_put_other ok a0 a1 u0 u1 h1]

/-- What is so where two puts are right. -/
theorem two_puts {l : List (Int × Int)} {a u b v : Int} (h1 : putE l a u = 0) (h2 : putE l b v = 0) :
    asked l a = 0 ∧ asked (put a u l) a = 0 ∧ asked l b = 0 ∧ asked (put a u l) b = 0 ∧ putE (put a u l) a (find a l) = 0 ∧ find a (put a u l) = u ∧ (a ≠ b → find b (put a u l) = find b l) ∧ put a (find a l) (put a u l) = l ∧
    (a ≠ b → putE (put a u l) b v = putE (put b v l) a u ∧ putV (put a u l) b v = putV (put b v l) a u) := by
  obtain ⟨s1, s2, s3, s4⟩ := putE_zero h1
  obtain ⟨t1, t2, t3, t4⟩ := putE_zero h2
  obtain ⟨c, a0, a1⟩ := asked_zero s1
  obtain ⟨_, b0, b1⟩ := asked_zero t1
  have hz := (chk_zero l).1 c
  have ok := hz.2
  have oa := put_ok ok a0 a1 s2 s3
  have ob := put_ok ok b0 b1 t2 t3
  have hr := find_range (key := a) ok
  have ca : chk (put a u l) = 0 := (chk_zero _).2 ⟨s4, oa⟩
  have cb : chk (put b v l) = 0 := (chk_zero _).2 ⟨t4, ob⟩
  have hback := put_back ok a0 a1 s2 s3
  refine ⟨s1, asked_ok ca a0 a1, t1, asked_ok ca b0 b1, putE_ok (asked_ok ca a0 a1) hr.1 hr.2 (by rw [hback]; exact hz.1), find_put_same ok a0 a1 s2 s3, fun hab => find_put_other ok a0 a1 s2 s3 (Ne.symm hab), hback, fun hab => ?_⟩
  have hc := put_comm ok a0 a1 s2 s3 b0 b1 t2 t3 hab
  have he : putE (put a u l) b v = putE (put b v l) a u := by
    by_cases h40 : 40 < (put b v (put a u l)).length
    · rw [putE_many (asked_ok ca b0 b1) t2 t3 h40, putE_many (asked_ok cb a0 a1) s2 s3 (by rw [← hc]; exact h40)]
    · rw [putE_ok (asked_ok ca b0 b1) t2 t3 (by omega), putE_ok (asked_ok cb a0 a1) s2 s3 (by rw [← hc]; omega)]
  refine ⟨he, ?_⟩
  unfold putV
  rw [he, hc]

end Go.Proofs.Ytcgpgflnihjpiac.M
