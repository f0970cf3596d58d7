/- Plain facts on differences. -/
import Derived.Test.YtcgpgflnihjpiacCh0
import Derived.Test.YtcgpgflnihjpiacTree1
namespace Go.Proofs.Ytcgpgflnihjpiac.M

/-- The last key of a chunk. -/
def lk (c : List (Int × Int)) : Int := (c.getD (c.length - 1) (0, 0)).1
def has (L : List (Int × Int)) (x : Int) : Bool := L.any (fun r => r.1 == x)
theorem has_iff (L : List (Int × Int)) (x : Int) : has L x = true ↔ ∃ r ∈ L, r.1 = x := by
  unfold has; rw [List.any_eq_true]; simp
theorem has_no (L : List (Int × Int)) (x : Int) : has L x = false ↔ ∀ r ∈ L, r.1 ≠ x := by
  unfold has; rw [List.any_eq_false]; simp
theorem find_snoc (x : Int) (L : List (Int × Int)) (r : Int × Int) : find x (L ++ [r]) = if has L x = true then find x L else if r.1 = x then r.2 else -1 := by
  induction L with
  | nil => simp [find, has]
  | cons q t ih =>
    rw [List.cons_append, find, find]
    by_cases h : q.1 = x
    · rw [if_pos h, if_pos h, if_pos ((has_iff _ _).2 ⟨q, by simp, h⟩)]
    · rw [if_neg h, if_neg h, ih]
      have e : has (q :: t) x = has t x := by unfold has; simp [h]
      rw [e]
theorem has_snoc (L : List (Int × Int)) (r : Int × Int) (x : Int) : has (L ++ [r]) x = (has L x || (r.1 == x)) := by unfold has; simp
theorem find_has_no {L : List (Int × Int)} {x : Int} (h : has L x = false) : find x L = -1 := find_none x L ((has_no L x).1 h)

/-- The rows of chunks that another list of chunks has not. -/
def apt (G H : List (List (Int × Int))) : List (Int × Int) := (G.filter (fun c => !decide (c ∈ H))).flatten
theorem mem_apt (G H : List (List (Int × Int))) (r : Int × Int) : r ∈ apt G H ↔ ∃ c ∈ G, c ∉ H ∧ r ∈ c := by
  unfold apt
  rw [List.mem_flatten]
  constructor
  · rintro ⟨c, hc, hr⟩
    have := List.mem_filter.1 hc
    exact ⟨c, this.1, by simpa using this.2, hr⟩
  · rintro ⟨c, h1, h2, h3⟩
    exact ⟨c, List.mem_filter.2 ⟨h1, by simpa using h2⟩, h3⟩
theorem apt_take (G H : List (List (Int × Int))) (i : Nat) (h : i < G.length) : apt (G.take (i + 1)) H = apt (G.take i) H ++ if G.getD i [] ∈ H then [] else G.getD i [] := by
  unfold apt
  rw [List.take_succ_eq_append_getElem h, List.filter_append, List.flatten_append]
  have e : G.getD i [] = G[i] := by simp [List.getD, h]
  rw [e]
  by_cases hm : G[i] ∈ H <;> simp [hm]
theorem apt_sub (G H : List (List (Int × Int))) : (apt G H).Sublist G.flatten := by
  unfold apt
  induction G with
  | nil => simp
  | cons c t ih =>
    rw [List.filter_cons, List.flatten_cons]
    split
    · rw [List.flatten_cons]; exact (List.Sublist.refl c).append ih
    · exact ih.trans (List.sublist_append_right c t.flatten)
theorem apt_ok {G H : List (List (Int × Int))} (h : Ok G.flatten) : Ok (apt G H) := ⟨fun r hr => h.1 r ((apt_sub G H).subset hr), h.2.sublist (apt_sub G H)⟩
theorem apt_len (G H : List (List (Int × Int))) : (apt G H).length ≤ G.flatten.length := (apt_sub G H).length_le

/-- A key stands in one chunk alone. -/
theorem one_chunk {G : List (List (Int × Int))} (h : G.flatten.Pairwise (fun a b => a.1 < b.1)) {c c' : List (Int × Int)} (hc : c ∈ G) (hc' : c' ∈ G) {r r' : Int × Int} (hr : r ∈ c) (hr' : r' ∈ c') (e : r.1 = r'.1) : c = c' := by
  induction G with
  | nil => simp at hc
  | cons q t ih =>
    rw [List.flatten_cons, List.pairwise_append] at h
    rcases List.mem_cons.1 hc with rfl | hc1
    · rcases List.mem_cons.1 hc' with rfl | hc2
      · rfl
      · have := h.2.2 r hr r' (List.mem_flatten.2 ⟨c', hc2, hr'⟩); omega
    · rcases List.mem_cons.1 hc' with rfl | hc2
      · have := h.2.2 r' hr' r (List.mem_flatten.2 ⟨c, hc1, hr⟩); omega
      · exact ih h.2.1 hc1 hc2
theorem lk_mem (c : List (Int × Int)) (h : c ≠ []) : ∃ r ∈ c, r.1 = lk c := by
  have hl : 0 < c.length := List.length_pos_iff.2 h
  exact ⟨c.getD (c.length - 1) (0, 0), getD_mem c _ (by omega), rfl⟩
theorem lk_inj {G : List (List (Int × Int))} (h : G.flatten.Pairwise (fun a b => a.1 < b.1)) (hne : ∀ c ∈ G, c ≠ []) {c c' : List (Int × Int)} (hc : c ∈ G) (hc' : c' ∈ G) (e : lk c = lk c') : c = c' := by
  obtain ⟨r, hr, e1⟩ := lk_mem c (hne c hc)
  obtain ⟨r', hr', e2⟩ := lk_mem c' (hne c' hc')
  exact one_chunk h hc hc' hr hr' (by omega)
theorem lk_range {G : List (List (Int × Int))} (h : Ok G.flatten) (hne : ∀ c ∈ G, c ≠ []) {c : List (Int × Int)} (hc : c ∈ G) : 0 ≤ lk c ∧ lk c ≤ 99 := by
  obtain ⟨r, hr, e⟩ := lk_mem c (hne c hc)
  have := h.1 r (List.mem_flatten.2 ⟨c, hc, hr⟩)
  omega

theorem apt_find {G H : List (List (Int × Int))} (hG : Ok G.flatten) (hH : Ok H.flatten) (x : Int) :
    (find x (apt G H) = find x G.flatten ∧ find x (apt H G) = find x H.flatten) ∨ (find x (apt G H) = -1 ∧ find x (apt H G) = -1 ∧ find x G.flatten = find x H.flatten) := by
  have o1 := apt_ok (H := H) hG
  have o2 := apt_ok (H := G) hH
  -- of one side: where its chunk is not in the other, the value is there
  have side : ∀ (P Q : List (List (Int × Int))), Ok P.flatten → Ok Q.flatten → ∀ r c, c ∈ P → r ∈ c → r.1 = x → c ∉ Q → find x (apt P Q) = find x P.flatten := fun P Q hP hQ r c hc hr e hn => by
    rw [find_mem x _ (apt_ok hP).2 r ((mem_apt P Q r).2 ⟨c, hc, hn, hr⟩) e, find_mem x _ hP.2 r (List.mem_flatten.2 ⟨c, hc, hr⟩) e]
  have gone1 : ∀ (P Q : List (List (Int × Int))), Ok P.flatten → ∀ r c, c ∈ P → r ∈ c → r.1 = x → c ∈ Q → find x (apt P Q) = -1 := fun P Q hP r c hc hr e hm => by
    refine find_none x _ fun q hq eq => ?_
    obtain ⟨c', h1, h2, h3⟩ := (mem_apt P Q q).1 hq
    have := one_chunk hP.2 hc h1 hr h3 (by omega)
    exact h2 (this ▸ hm)
  have none1 : ∀ (P Q : List (List (Int × Int))), (∀ r ∈ P.flatten, r.1 ≠ x) → find x (apt P Q) = find x P.flatten := fun P Q hn => by
    rw [find_none x _ hn, find_none x _ fun r hr => hn r ((apt_sub P Q).subset hr)]
  by_cases hx : ∃ r ∈ G.flatten, r.1 = x
  · obtain ⟨r, hr, e⟩ := hx
    obtain ⟨c, hc, hrc⟩ := List.mem_flatten.1 hr
    by_cases hm : c ∈ H
    · right
      refine ⟨gone1 G H hG r c hc hrc e hm, gone1 H G hH r c hm hrc e hc, ?_⟩
      rw [find_mem x _ hG.2 r hr e, find_mem x _ hH.2 r (List.mem_flatten.2 ⟨c, hm, hrc⟩) e]
    · left
      refine ⟨side G H hG hH r c hc hrc e hm, ?_⟩
      by_cases hy : ∃ r ∈ H.flatten, r.1 = x
      · obtain ⟨r2, hr2, e2⟩ := hy
        obtain ⟨c2, hc2, hrc2⟩ := List.mem_flatten.1 hr2
        refine side H G hH hG r2 c2 hc2 hrc2 e2 (fun h => hm ?_)
        have := one_chunk hG.2 hc h hrc hrc2 (by omega)
        exact this ▸ hc2
      · exact none1 H G fun r hr e => hy ⟨r, hr, e⟩
  · left
    refine ⟨none1 G H fun r hr e => hx ⟨r, hr, e⟩, ?_⟩
    by_cases hy : ∃ r ∈ H.flatten, r.1 = x
    · obtain ⟨r2, hr2, e2⟩ := hy
      obtain ⟨c2, hc2, hrc2⟩ := List.mem_flatten.1 hr2
      exact side H G hH hG r2 c2 hc2 hrc2 e2 fun h => hx ⟨r2, List.mem_flatten.2 ⟨c2, h, hrc2⟩, e2⟩
    · exact none1 H G fun r hr e => hy ⟨r, hr, e⟩

/-- What differs, below a key. -/
def difF (a b : List (Int × Int)) : Nat → List Chg
  | 0 => []
  | n + 1 => if find (n : Int) a ≠ find (n : Int) b then difF a b n ++ [((n : Int), find n a, find n b)] else difF a b n
def dif (a b : List (Int × Int)) : List Chg := difF a b 100
theorem difF_len (a b : List (Int × Int)) (n : Nat) : (difF a b n).length ≤ n := by
  induction n with
  | zero => simp [difF]
  | succ n ih => rw [difF]; split
                 · simp; omega
                 · omega
theorem mem_difF (a b : List (Int × Int)) (n : Nat) (c : Chg) : c ∈ difF a b n ↔ ∃ k : Nat, k < n ∧ find (k : Int) a ≠ find (k : Int) b ∧ c = ((k : Int), find k a, find k b) := by
  induction n with
  | zero => simp [difF]
  | succ n ih =>
    rw [difF]
    split
    · rename_i h
      rw [List.mem_append, ih, List.mem_singleton]
      constructor
      · rintro (⟨k, h1, h2, h3⟩ | h1)
        · exact ⟨k, by omega, h2, h3⟩
        · exact ⟨n, by omega, h, h1⟩
      · rintro ⟨k, h1, h2, h3⟩
        by_cases e : k = n
        · subst e; exact Or.inr h3
        · exact Or.inl ⟨k, by omega, h2, h3⟩
    · rename_i h
      rw [ih]
      constructor
      · rintro ⟨k, h1, h2, h3⟩; exact ⟨k, by omega, h2, h3⟩
      · rintro ⟨k, h1, h2, h3⟩
        by_cases e : k = n
        · subst e; exact absurd h2 h
        · exact ⟨k, by omega, h2, h3⟩
theorem difF_rise (a b : List (Int × Int)) (n : Nat) : (difF a b n).Pairwise (fun a b => a.1 < b.1) := by
  induction n with
  | zero => simp [difF]
  | succ n ih =>
    rw [difF]
    split
    · rw [List.pairwise_append]
      refine ⟨ih, by simp, fun x hx y hy => ?_⟩
      obtain ⟨k, hk, _, rfl⟩ := (mem_difF a b n x).1 hx
      have : y = ((n : Int), find (n : Int) a, find (n : Int) b) := by simpa using hy
      subst this
      show (k : Int) < (n : Int)
      omega
    · exact ih
/-- What is told of a key of the map. -/
def tellC (l1 l2 : List (Int × Int)) (x : Int) : Option Chg := if find x l1 ≠ find x l2 then some (x, find x l1, find x l2) else none
theorem sel_tell {a b l1 l2 : List (Int × Int)} (p : Nat → Bool) (n : Nat)
    (h : ∀ k : Nat, (find (k : Int) l1 = find (k : Int) a ∧ find (k : Int) l2 = find (k : Int) b) ∨ (find (k : Int) l1 = -1 ∧ find (k : Int) l2 = -1 ∧ find (k : Int) a = find (k : Int) b))
    (hp : ∀ k : Nat, find (k : Int) l1 ≠ find (k : Int) l2 → p k = true) : (sel p n).filterMap (tellC l1 l2) = difF a b n := by
  induction n with
  | zero => rfl
  | succ n ih =>
    rw [sel, difF]
    rcases h n with ⟨e1, e2⟩ | ⟨e1, e2, e3⟩
    · by_cases hd : find (n : Int) a ≠ find (n : Int) b
      · have hd2 : find (n : Int) l1 ≠ find (n : Int) l2 := by rw [e1, e2]; exact hd
        rw [if_pos (hp n hd2), if_pos hd, List.filterMap_append, ih]
        congr 1
        simp [tellC, e1, e2, hd]
      · rw [if_neg hd]
        have hd2 : ¬ find (n : Int) l1 ≠ find (n : Int) l2 := by rw [e1, e2]; exact hd
        split
        · rw [List.filterMap_append, ih]
          simp [tellC, hd2]
        · exact ih
    · rw [if_neg (show ¬ find (n : Int) a ≠ find (n : Int) b by simp [e3])]
      split
      · rw [List.filterMap_append, ih]
        simp [tellC, e1, e2]
      · exact ih
end Go.Proofs.Ytcgpgflnihjpiac.M
