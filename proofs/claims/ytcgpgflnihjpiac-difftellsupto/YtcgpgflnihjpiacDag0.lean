/- Plain facts on commits, with no program in sight. -/
import Derived.Test.YtcgpgflnihjpiacMath
namespace Go.Proofs.Ytcgpgflnihjpiac.M

/-- A commit: its rows, its parents. -/
abbrev Com := List (Int × Int) × List Int
/-- Parents that rise behind one, below n. -/
def ris (n : Nat) (ah : Int) : List Int → Bool
  | [] => true
  | p :: t => decide (ah < p ∧ p < (n : Int)) && ris n p t
def pr (n : Nat) (ps : List Int) : Bool := decide (ps.length ≤ 2) && ris n (-1) ps
def dchkF (n : Nat) : List Com → Int
  | [] => 0
  | c :: t => if chk c.1 ≠ 0 then chk c.1 else if pr n c.2 = true then dchkF (n + 1) t else 1
/-- The error of commits. -/
def dchk (L : List Com) : Int := if 14 < L.length then 2 else dchkF 0 L

theorem dchk_many (L : List Com) (h : 14 < L.length) : dchk L = 2 := by unfold dchk; rw [if_pos h]
theorem dchk_few (L : List Com) (h : L.length ≤ 14) : dchk L = dchkF 0 L := by unfold dchk; rw [if_neg (by omega)]

theorem idrop (l : List Int) (k : Nat) (h : k < l.length) : l.drop k = l.getD k 0 :: l.drop (k + 1) := by
  rw [List.drop_eq_getElem_cons h]; simp [List.getD, h]
theorem cdrop (l : List Com) (k : Nat) (h : k < l.length) : l.drop k = l.getD k ([], []) :: l.drop (k + 1) := by
  rw [List.drop_eq_getElem_cons h]; simp [List.getD, h]

theorem ris_bad (n : Nat) (ah : Int) (l : List Int) (k : Nat) (h : k < l.length) (p : Int) (e : l.getD k 0 = p) (hb : p ≤ ah ∨ (n : Int) ≤ p) : ris n ah (l.drop k) = false := by
  rw [idrop l k h, e, ris, decide_eq_false (by omega)]; rfl
theorem ris_good (n : Nat) (ah : Int) (l : List Int) (k : Nat) (h : k < l.length) (p : Int) (e : l.getD k 0 = p) (h1 : ah < p) (h2 : p < (n : Int)) : ris n ah (l.drop k) = ris n p (l.drop (k + 1)) := by
  rw [idrop l k h, e, ris, decide_eq_true ⟨h1, h2⟩]; rfl
theorem ris_end (n : Nat) (ah : Int) (l : List Int) (k : Nat) (h : l.length ≤ k) : ris n ah (l.drop k) = true := by
  rw [List.drop_eq_nil_of_le h]; rfl
theorem ris_mem {n : Nat} {ah : Int} {l : List Int} (h : ris n ah l = true) : ∀ p ∈ l, ah < p ∧ p < (n : Int) := by
  induction l generalizing ah with
  | nil => simp
  | cons q t ih =>
    simp only [ris, Bool.and_eq_true, decide_eq_true_eq] at h
    intro p hp
    rcases List.mem_cons.1 hp with rfl | hp
    · exact h.1
    · have := ih h.2 p hp; omega
theorem pr_long (n : Nat) (l : List Int) (h : 2 < l.length) : pr n l = false := by unfold pr; rw [decide_eq_false (by omega)]; rfl
theorem pr_short (n : Nat) (l : List Int) (h : l.length ≤ 2) : pr n l = ris n (-1) l := by unfold pr; rw [decide_eq_true h]; rfl

theorem dchkF_bad (n : Nat) (L : List Com) (h : n < L.length) (c : Com) (e : L.getD n ([], []) = c) (hb : chk c.1 ≠ 0) : dchkF n (L.drop n) = chk c.1 := by
  rw [cdrop L n h, e, dchkF, if_pos hb]
theorem dchkF_form (n : Nat) (L : List Com) (h : n < L.length) (c : Com) (e : L.getD n ([], []) = c) (h1 : chk c.1 = 0) (hb : pr n c.2 = false) : dchkF n (L.drop n) = 1 := by
  rw [cdrop L n h, e, dchkF, if_neg (by omega), if_neg (by simp [hb])]
theorem dchkF_good (n : Nat) (L : List Com) (h : n < L.length) (c : Com) (e : L.getD n ([], []) = c) (h1 : chk c.1 = 0) (hb : pr n c.2 = true) : dchkF n (L.drop n) = dchkF (n + 1) (L.drop (n + 1)) := by
  rw [cdrop L n h, e, dchkF, if_neg (by omega), if_pos hb]
theorem dchkF_end (n : Nat) (L : List Com) (h : L.length ≤ n) : dchkF n (L.drop n) = 0 := by
  rw [List.drop_eq_nil_of_le h]; rfl

/-- Right commits. -/
def Right (L : List Com) : Prop := ∀ i, i < L.length → chk (L.getD i ([], [])).1 = 0 ∧ (L.getD i ([], [])).2.length ≤ 2 ∧ ∀ p ∈ (L.getD i ([], [])).2, 0 ≤ p ∧ p < (i : Int)

theorem dchkF_right (n : Nat) (L : List Com) (h : dchkF n L = 0) : ∀ i, i < L.length → chk (L.getD i ([], [])).1 = 0 ∧ (L.getD i ([], [])).2.length ≤ 2 ∧ ∀ p ∈ (L.getD i ([], [])).2, 0 ≤ p ∧ p < ((n + i : Nat) : Int) := by
  induction L generalizing n with
  | nil => intro i hi; simp at hi
  | cons c t ih =>
    rw [dchkF] at h
    by_cases h1 : chk c.1 = 0
    · rw [if_neg (by omega)] at h
      by_cases h2 : pr n c.2 = true
      · rw [if_pos h2] at h
        intro i hi
        cases i with
        | zero =>
          have h3 := h2
          unfold pr at h3
          simp only [Bool.and_eq_true, decide_eq_true_eq] at h3
          refine ⟨h1, h3.1, fun p hp => ?_⟩
          have := ris_mem h3.2 p hp
          simp only [Nat.add_zero]
          omega
        | succ i =>
          have := ih (n + 1) h i (by simpa using hi)
          rw [show n + (i + 1) = n + 1 + i by omega]
          simpa [List.getD] using this
      · rw [if_neg h2] at h; omega
    · rw [if_pos h1] at h; omega

theorem dchk_zero {L : List Com} (h : dchk L = 0) : L.length ≤ 14 ∧ Right L := by
  unfold dchk at h
  by_cases h1 : 14 < L.length
  · rw [if_pos h1] at h; omega
  · rw [if_neg h1] at h
    refine ⟨by omega, fun i hi => ?_⟩
    have := dchkF_right 0 L h i hi
    simpa using this

/-- Marks, and some more. -/
def mark (m : List Bool) (ps : List Int) : List Bool := ps.foldl (fun m p => m.set p.toNat true) m
theorem mark_len (m : List Bool) (ps : List Int) : (mark m ps).length = m.length := by
  unfold mark
  induction ps generalizing m with
  | nil => rfl
  | cons p t ih => rw [List.foldl_cons, ih]; simp
theorem mark_nil (m : List Bool) : mark m [] = m := rfl
theorem mark_take (m : List Bool) (ps : List Int) (k : Nat) (h : k < ps.length) : mark m (ps.take (k + 1)) = (mark m (ps.take k)).set (ps.getD k 0).toNat true := by
  unfold mark
  rw [List.take_succ_eq_append_getElem h, List.foldl_append]
  simp [List.getD, h]
theorem set_get_bool (m : List Bool) (i j : Nat) (h : i < m.length) : (m.set i true).getD j false = true ↔ i = j ∨ m.getD j false = true := by
  simp only [List.getD, List.getElem?_set]
  by_cases e : i = j
  · subst e; simp [h]
  · simp [e]
theorem mark_get (m : List Bool) (ps : List Int) (h : ∀ p ∈ ps, p.toNat < m.length) (j : Nat) : (mark m ps).getD j false = true ↔ m.getD j false = true ∨ ∃ p ∈ ps, p.toNat = j := by
  induction ps generalizing m with
  | nil => simp [mark]
  | cons p t ih =>
    have e : mark m (p :: t) = mark (m.set p.toNat true) t := rfl
    rw [e, ih (m.set p.toNat true) (fun q hq => by simpa using h q (by simp [hq])), set_get_bool m _ _ (h p (by simp))]
    constructor
    · rintro ((h1 | h1) | ⟨q, hq, h1⟩)
      · exact Or.inr ⟨p, by simp, h1⟩
      · exact Or.inl h1
      · exact Or.inr ⟨q, by simp [hq], h1⟩
    · rintro (h1 | ⟨q, hq, h1⟩)
      · exact Or.inl (Or.inr h1)
      · rcases List.mem_cons.1 hq with rfl | hq
        · exact Or.inl (Or.inl h1)
        · exact Or.inr ⟨q, hq, h1⟩

/-- Going down from the k-th. -/
def aboveF (L : List Com) : Nat → List Bool → List Bool
  | 0, m => m
  | k + 1, m => aboveF L k (if m.getD k false = true then mark m (L.getD k ([], [])).2 else m)
def above (L : List Com) (n : Nat) : List Bool := aboveF L (n + 1) ((List.replicate L.length false).set n true)
theorem aboveF_len (L : List Com) (k : Nat) (m : List Bool) : (aboveF L k m).length = m.length := by
  induction k generalizing m with
  | zero => rfl
  | succ k ih => rw [aboveF, ih]; split <;> simp [mark_len]
theorem above_len (L : List Com) (n : Nat) : (above L n).length = L.length := by unfold above; rw [aboveF_len]; simp

/-- k is n, or a parent of one that is above n. -/
inductive Anc (L : List Com) (n : Nat) : Nat → Prop
  | self : Anc L n n
  | up {j k : Nat} {p : Int} : Anc L n j → p ∈ (L.getD j ([], [])).2 → p.toNat = k → Anc L n k

theorem Anc.trans {L : List Com} {a b c : Nat} (h : Anc L a b) (k : Anc L b c) : Anc L a c := by
  induction k with
  | self => exact h
  | up _ h2 h3 ih => exact .up ih h2 h3
theorem Right.par {L : List Com} (R : Right L) {j : Nat} {p : Int} (hp : p ∈ (L.getD j ([], [])).2) : p.toNat < j ∧ j < L.length := by
  by_cases hj : j < L.length
  · have := (R j hj).2.2 p hp; omega
  · rw [show L.getD j ([], []) = ([], []) by simp [List.getD, hj]] at hp
    simp at hp
theorem Anc.le {L : List Com} (R : Right L) {n k : Nat} (h : Anc L n k) : k ≤ n := by
  induction h with
  | self => omega
  | up _ h2 h3 ih => have := R.par h2; omega
/-- Who is above n, and not n, is a parent of one that is above n. -/
theorem Anc.last {L : List Com} {n k : Nat} (h : Anc L n k) (hne : k ≠ n) : ∃ j p, Anc L n j ∧ p ∈ (L.getD j ([], [])).2 ∧ p.toNat = k := by
  cases h with
  | self => exact absurd rfl hne
  | up h1 h2 h3 => exact ⟨_, _, h1, h2, h3⟩

theorem aboveF_iff {L : List Com} (R : Right L) (n : Nat) (k : Nat) (m : List Bool) (hm : m.length = L.length) (hk : k ≤ L.length)
    (h1 : ∀ j, m.getD j false = true → Anc L n j) (h2 : m.getD n false = true)
    (h3 : ∀ j p, k ≤ j → m.getD j false = true → p ∈ (L.getD j ([], [])).2 → m.getD p.toNat false = true) (i : Nat) :
    (aboveF L k m).getD i false = true ↔ Anc L n i := by
  induction k generalizing m with
  | zero =>
    rw [aboveF]
    refine ⟨h1 i, fun h => ?_⟩
    induction h with
    | self => exact h2
    | up _ hp e ih => rw [← e]; exact h3 _ _ (by omega) ih hp
  | succ k ih =>
    rw [aboveF]
    by_cases hb : m.getD k false = true
    · rw [if_pos hb]
      have hps : ∀ p ∈ (L.getD k ([], [])).2, p.toNat < m.length := fun p hp => by have := R.par hp; omega
      have G := mark_get m (L.getD k ([], [])).2 hps
      refine ih (mark m (L.getD k ([], [])).2) (by rw [mark_len]; exact hm) (by omega) (fun j hj => ?_) ((G n).2 (Or.inl h2)) (fun j p hj hmj hp => ?_)
      · rcases (G j).1 hj with h | ⟨p, hp, e⟩
        · exact h1 j h
        · exact .up (h1 k hb) hp e
      · rcases (G j).1 hmj with h | ⟨q, hq, e⟩
        · by_cases ek : j = k
          · subst ek; exact (G _).2 (Or.inr ⟨p, hp, rfl⟩)
          · exact (G _).2 (Or.inl (h3 j p (by omega) h hp))
        · have := R.par hq; omega
    · rw [if_neg hb]
      refine ih m hm (by omega) h1 h2 (fun j p hj hmj hp => ?_)
      by_cases ek : j = k
      · subst ek; exact absurd hmj hb
      · exact h3 j p (by omega) hmj hp

theorem above_iff {L : List Com} (R : Right L) {n : Nat} (hn : n < L.length) (i : Nat) : (above L n).getD i false = true ↔ Anc L n i := by
  have S := set_get_bool (List.replicate L.length false) n
  have Z : ∀ j, (List.replicate L.length false).getD j false = false := fun j => by
    simp only [List.getD, List.getElem?_replicate]; split <;> rfl
  unfold above
  refine aboveF_iff R n (n + 1) _ (by simp) (by omega) (fun j hj => ?_) ((S n (by simpa using hn)).2 (Or.inl rfl)) (fun j p hj hmj _ => ?_) i
  · rcases (S j (by simpa using hn)).1 hj with rfl | h
    · exact .self
    · rw [Z] at h; simp at h
  · rcases (S j (by simpa using hn)).1 hmj with rfl | h
    · omega
    · rw [Z] at h; simp at h

/-- The numbers below k that p chooses. -/
def sel (p : Nat → Bool) : Nat → List Int
  | 0 => []
  | k + 1 => if p k = true then sel p k ++ [(k : Int)] else sel p k
theorem sel_congr (p q : Nat → Bool) (n : Nat) (h : ∀ k, k < n → p k = q k) : sel p n = sel q n := by
  induction n with
  | zero => rfl
  | succ n ih => rw [sel, sel, h n (by omega), ih fun k hk => h k (by omega)]
theorem sel_len (p : Nat → Bool) (n : Nat) : (sel p n).length ≤ n := by
  induction n with
  | zero => simp [sel]
  | succ n ih => rw [sel]; split
                 · simp; omega
                 · omega
theorem mem_sel (p : Nat → Bool) (n : Nat) (x : Int) : x ∈ sel p n ↔ ∃ k : Nat, k < n ∧ p k = true ∧ x = k := by
  induction n with
  | zero => simp [sel]
  | succ n ih =>
    rw [sel]
    split
    · rename_i h
      rw [List.mem_append, ih, List.mem_singleton]
      constructor
      · rintro (⟨k, h1, h2, h3⟩ | h1)
        · exact ⟨k, by omega, h2, h3⟩
        · exact ⟨n, by omega, h, h1⟩
      · rintro ⟨k, h1, h2, h3⟩
        by_cases e : k = n
        · subst e; exact Or.inr h3
        · exact Or.inl ⟨k, by omega, h2, h3⟩
    · rename_i h
      rw [ih]
      constructor
      · rintro ⟨k, h1, h2, h3⟩; exact ⟨k, by omega, h2, h3⟩
      · rintro ⟨k, h1, h2, h3⟩
        by_cases e : k = n
        · subst e; exact absurd h2 h
        · exact ⟨k, by omega, h2, h3⟩

/-- Above both. -/
def both (L : List Com) (a b k : Nat) : Bool := (above L a).getD k false && (above L b).getD k false
/-- Who is a parent of one of both among the first k. -/
def furF (L : List Com) (bo : Nat → Bool) : Nat → List Bool
  | 0 => List.replicate L.length false
  | k + 1 => if bo k = true then mark (furF L bo k) (L.getD k ([], [])).2 else furF L bo k
theorem furF_len (L : List Com) (bo : Nat → Bool) (k : Nat) : (furF L bo k).length = L.length := by
  induction k with
  | zero => simp [furF]
  | succ k ih => rw [furF]; split
                 · rw [mark_len, ih]
                 · exact ih
theorem furF_iff {L : List Com} (R : Right L) (bo : Nat → Bool) (k : Nat) (i : Nat) : (furF L bo k).getD i false = true ↔ ∃ j p, j < k ∧ bo j = true ∧ p ∈ (L.getD j ([], [])).2 ∧ p.toNat = i := by
  induction k with
  | zero =>
    rw [furF]
    constructor
    · intro h
      simp only [List.getD, List.getElem?_replicate] at h
      split at h <;> simp at h
    · rintro ⟨j, p, h, _⟩; omega
  | succ k ih =>
    rw [furF]
    split
    · rename_i hb
      rw [mark_get _ _ (fun p hp => by rw [furF_len]; have := R.par hp; omega), ih]
      constructor
      · rintro (⟨j, p, h1, h2⟩ | ⟨p, hp, e⟩)
        · exact ⟨j, p, by omega, h2⟩
        · exact ⟨k, p, by omega, hb, hp, e⟩
      · rintro ⟨j, p, h1, h2, h3, h4⟩
        by_cases e : j = k
        · subst e; exact Or.inr ⟨p, h3, h4⟩
        · exact Or.inl ⟨j, p, by omega, h2, h3, h4⟩
    · rename_i hb
      rw [ih]
      constructor
      · rintro ⟨j, p, h1, h2⟩; exact ⟨j, p, by omega, h2⟩
      · rintro ⟨j, p, h1, h2, h3, h4⟩
        by_cases e : j = k
        · subst e; exact absurd h2 hb
        · exact ⟨j, p, by omega, h2, h3, h4⟩
def isBase (L : List Com) (a b k : Nat) : Bool := both L a b k && !((furF L (both L a b) L.length).getD k false)
def bases (L : List Com) (a b : Nat) : List Int := sel (isBase L a b) L.length

theorem both_iff {L : List Com} (R : Right L) {a b : Nat} (ha : a < L.length) (hb : b < L.length) (k : Nat) : both L a b k = true ↔ Anc L a k ∧ Anc L b k := by
  unfold both; rw [Bool.and_eq_true, above_iff R ha, above_iff R hb]

/-- Above another one of both, or a parent of one of both: it is the same. -/
theorem further_iff {L : List Com} (R : Right L) {a b : Nat} (ha : a < L.length) (hb : b < L.length) (k : Nat) :
    (furF L (both L a b) L.length).getD k false = true ↔ ∃ i, k < i ∧ i < L.length ∧ both L a b i = true ∧ (above L i).getD k false = true := by
  rw [furF_iff R]
  constructor
  · rintro ⟨j, p, h1, h2, h3, h4⟩
    have := R.par h3
    exact ⟨j, by omega, h1, h2, (above_iff R h1 k).2 (.up .self h3 h4)⟩
  · rintro ⟨i, h1, h2, h3, h4⟩
    obtain ⟨j, p, hj, hp, e⟩ := ((above_iff R h2 k).1 h4).last (by omega)
    have hb2 := (both_iff R ha hb i).1 h3
    exact ⟨j, p, (R.par hp).2, (both_iff R ha hb j).2 ⟨hb2.1.trans hj, hb2.2.trans hj⟩, hp, e⟩

theorem isBase_iff {L : List Com} (R : Right L) {a b : Nat} (ha : a < L.length) (hb : b < L.length) (k : Nat) :
    isBase L a b k = true ↔ both L a b k = true ∧ ∀ i, k < i → i < L.length → both L a b i = true → (above L i).getD k false = false := by
  unfold isBase
  rw [Bool.and_eq_true]
  refine and_congr_right fun _ => ?_
  have h := further_iff R ha hb k
  constructor
  · intro hn i h1 h2 h3
    by_cases h4 : (above L i).getD k false = true
    · rw [h.2 ⟨i, h1, h2, h3, h4⟩] at hn; simp at hn
    · simpa using h4
  · intro hn
    by_cases h5 : (furF L (both L a b) L.length).getD k false = true
    · obtain ⟨i, h1, h2, h3, h4⟩ := h.1 h5
      rw [hn i h1 h2 h3] at h4; simp at h4
    · simpa using h5

/-- Whoever is above both is above one of the bases. -/
theorem under_base {L : List Com} (R : Right L) {a b : Nat} (ha : a < L.length) (hb : b < L.length) (k : Nat) (hk : both L a b k = true) :
    ∃ i, i < L.length ∧ isBase L a b i = true ∧ (above L i).getD k false = true := by
  have hkl : k ≤ a := ((both_iff R ha hb k).1 hk).1.le R
  -- the greatest one of both that k is above
  obtain ⟨d, hd⟩ : ∃ d, L.length - k ≤ d := ⟨_, Nat.le_refl _⟩
  have : ∀ d j, L.length - j ≤ d → j < L.length → both L a b j = true → (above L j).getD k false = true → ∃ i, i < L.length ∧ isBase L a b i = true ∧ (above L i).getD k false = true := by
    intro d
    induction d with
    | zero => intro j h1 h2; omega
    | succ d ih =>
      intro j h1 h2 h3 h4
      by_cases hbs : isBase L a b j = true
      · exact ⟨j, h2, hbs, h4⟩
      · have hf : (furF L (both L a b) L.length).getD j false = true := by
          unfold isBase at hbs
          rw [h3] at hbs
          simpa using hbs
        obtain ⟨i, g1, g2, g3, g4⟩ := (further_iff R ha hb j).1 hf
        exact ih i (by omega) g2 g3 ((above_iff R g2 k).2 (((above_iff R g2 j).1 g4).trans ((above_iff R h2 k).1 h4)))
  exact this d k hd (by omega) hk ((above_iff R (by omega) k).2 .self)
end Go.Proofs.Ytcgpgflnihjpiac.M
