/- Plain facts on rows (lists of two integers), with no program in sight. -/
import Derived.KernelRfl
import Derived.PlainAid
import Derived.Lib.DecodeN
import Derived.Laws.RangeString
import Derived.Test.YtcgpgflnihjpiagGreatChecked
import Derived.WalkKit
import Derived.WalkSpells
import Derived.WalkLawsBesides
import Derived.Deep.LoopGhost
import Derived.Deep.QuietTactic
import Derived.BigQuiet
import Derived.Laws.AppendOwnNone
import Derived.Lib.AppendZeros
namespace Go.Proofs.YtcgpgflnihjpiagGreat.M

/-- A row that may not stand behind a key. -/
def bad (ah : Int) (r : Int × Int) : Bool := decide (r.1 ≤ ah ∨ 99 < r.1 ∨ r.2 < 0 ∨ 996 < r.2)
/-- The error of rows behind a key. -/
def chkFrom (ah : Int) : List (Int × Int) → Int
  | [] => 0
  | r :: t => if bad ah r = true then 1 else chkFrom r.1 t
/-- The error of rows. -/
def chk (l : List (Int × Int)) : Int := if 40 < l.length then 2 else chkFrom (-1) l

/-- The key ahead of the k-th row. -/
def prev (l : List (Int × Int)) : Nat → Int
  | 0 => -1
  | k + 1 => (l.getD k (0, 0)).1

theorem chk_many (l : List (Int × Int)) (h : 40 < l.length) : chk l = 2 := by unfold chk; rw [if_pos h]
theorem chk_few (l : List (Int × Int)) (h : l.length ≤ 40) : chk l = chkFrom (-1) l := by unfold chk; rw [if_neg (by omega)]

theorem drop_at (l : List (Int × Int)) (k : Nat) (h : k < l.length) : l.drop k = l.getD k (0, 0) :: l.drop (k + 1) := by
  rw [List.drop_eq_getElem_cons h]; simp [List.getD, h]

theorem chkFrom_bad (ah : Int) (l : List (Int × Int)) (k : Nat) (h : k < l.length) (x y : Int) (e : l.getD k (0, 0) = (x, y)) (hb : x ≤ ah ∨ 99 < x ∨ y < 0 ∨ 996 < y) : chkFrom ah (l.drop k) = 1 := by
  rw [drop_at l k h, e, chkFrom, if_pos (by simp [bad]; exact hb)]
theorem chkFrom_good (ah : Int) (l : List (Int × Int)) (k : Nat) (h : k < l.length) (x y : Int) (e : l.getD k (0, 0) = (x, y)) (h1 : ah < x) (h2 : x ≤ 99) (h3 : 0 ≤ y) (h4 : y ≤ 996) : chkFrom ah (l.drop k) = chkFrom x (l.drop (k + 1)) := by
  rw [drop_at l k h, e, chkFrom, if_neg (by simp [bad]; omega)]
theorem chkFrom_end (ah : Int) (l : List (Int × Int)) (k : Nat) (h : l.length ≤ k) : chkFrom ah (l.drop k) = 0 := by
  rw [List.drop_eq_nil_of_le h]; rfl

/-- Right rows, but for how many they are. -/
def Ok (l : List (Int × Int)) : Prop := (∀ r ∈ l, 0 ≤ r.1 ∧ r.1 ≤ 99 ∧ 0 ≤ r.2 ∧ r.2 ≤ 996) ∧ l.Pairwise (fun a b => a.1 < b.1)

theorem chkFrom_zero (ah : Int) (l : List (Int × Int)) : chkFrom ah l = 0 ↔ (∀ r ∈ l, ah < r.1 ∧ r.1 ≤ 99 ∧ 0 ≤ r.2 ∧ r.2 ≤ 996) ∧ l.Pairwise (fun a b => a.1 < b.1) := by
  induction l generalizing ah with
  | nil => simp [chkFrom]
  | cons r t ih =>
    rw [chkFrom]
    by_cases hb : bad ah r = true
    · rw [if_pos hb]
      constructor
      · intro h; omega
      · rintro ⟨h, _⟩
        have := h r (by simp)
        simp [bad] at hb
        omega
    · rw [if_neg hb, ih]
      have hg : ah < r.1 ∧ r.1 ≤ 99 ∧ 0 ≤ r.2 ∧ r.2 ≤ 996 := by simp [bad] at hb; omega
      constructor
      · rintro ⟨h1, h2⟩
        refine ⟨fun q hq => ?_, List.pairwise_cons.2 ⟨fun q hq => (h1 q hq).1, h2⟩⟩
        rcases List.mem_cons.1 hq with rfl | hq
        · exact hg
        · have := h1 q hq; omega
      · rintro ⟨h1, h2⟩
        have h3 := List.pairwise_cons.1 h2
        exact ⟨fun q hq => ⟨h3.1 q hq, (h1 q (by simp [hq])).2⟩, h3.2⟩

theorem chk_zero (l : List (Int × Int)) : chk l = 0 ↔ l.length ≤ 40 ∧ Ok l := by
  unfold chk
  by_cases h : 40 < l.length
  · rw [if_pos h]; constructor
    · intro h; omega
    · rintro ⟨h, _⟩; omega
  · rw [if_neg h, chkFrom_zero]
    constructor
    · rintro ⟨h1, h2⟩; exact ⟨by omega, fun r hr => by have := h1 r hr; omega, h2⟩
    · rintro ⟨_, h1, h2⟩; exact ⟨fun r hr => by have := h1 r hr; omega, h2⟩

theorem chkFrom_range (ah : Int) (l : List (Int × Int)) : chkFrom ah l = 0 ∨ chkFrom ah l = 1 := by
  induction l generalizing ah with
  | nil => simp [chkFrom]
  | cons r t ih => rw [chkFrom]; split <;> simp [ih]

theorem getD_mem (l : List (Int × Int)) (i : Nat) (h : i < l.length) : l.getD i (0, 0) ∈ l := by
  simp [List.getD, h]

theorem Ok.asc {l : List (Int × Int)} (h : Ok l) (i j : Nat) (hij : i < j) (hj : j < l.length) : (l.getD i (0, 0)).1 < (l.getD j (0, 0)).1 := by
  have := List.pairwise_iff_getElem.1 h.2 i j (by omega) hj hij
  simpa [List.getD, hj, Nat.lt_trans hij hj] using this

theorem Ok.mono {l : List (Int × Int)} (h : Ok l) (i j : Nat) (hij : i ≤ j) (hj : j < l.length) : (l.getD i (0, 0)).1 ≤ (l.getD j (0, 0)).1 := by
  by_cases e : i = j
  · rw [e]; omega
  · have := h.asc i j (by omega) hj; omega

theorem Ok.tail {r : Int × Int} {t : List (Int × Int)} (h : Ok (r :: t)) : Ok t := ⟨fun q hq => h.1 q (by simp [hq]), (List.pairwise_cons.1 h.2).2⟩
theorem Ok.head {r : Int × Int} {t : List (Int × Int)} (h : Ok (r :: t)) : ∀ q ∈ t, r.1 < q.1 := (List.pairwise_cons.1 h.2).1

/-- The value of a key. -/
def find (key : Int) : List (Int × Int) → Int
  | [] => -1
  | r :: t => if r.1 = key then r.2 else find key t

theorem find_none (key : Int) (l : List (Int × Int)) (h : ∀ r ∈ l, r.1 ≠ key) : find key l = -1 := by
  induction l with
  | nil => rfl
  | cons r t ih => rw [find, if_neg (h r (by simp)), ih fun q hq => h q (by simp [hq])]

theorem find_mem (key : Int) (l : List (Int × Int)) (hk : l.Pairwise (fun a b => a.1 < b.1)) (r : Int × Int) (hr : r ∈ l) (e : r.1 = key) : find key l = r.2 := by
  induction l with
  | nil => simp at hr
  | cons q t ih =>
    rw [find]
    have h2 := List.pairwise_cons.1 hk
    rcases List.mem_cons.1 hr with rfl | hr
    · rw [if_pos e]
    · rw [if_neg (by have := h2.1 r hr; omega), ih h2.2 hr]

/-- What a search for a key has found. -/
def At (l : List (Int × Int)) (key : Int) (k : Nat) (t : Bool) : Prop :=
  k ≤ l.length ∧ (∀ i, i < k → (l.getD i (0, 0)).1 < key) ∧ (k < l.length → key ≤ (l.getD k (0, 0)).1) ∧ (t = true ↔ k < l.length ∧ (l.getD k (0, 0)).1 = key)

theorem At.yes {l : List (Int × Int)} {key : Int} {k : Nat} (h : At l key k true) : k < l.length ∧ (l.getD k (0, 0)).1 = key := h.2.2.2.1 rfl

theorem At.find_yes {l : List (Int × Int)} {key : Int} {k : Nat} (h : At l key k true) (ok : Ok l) : find key l = (l.getD k (0, 0)).2 :=
  find_mem key l ok.2 _ (getD_mem l k h.yes.1) h.yes.2

theorem mem_getD {l : List (Int × Int)} {r : Int × Int} (h : r ∈ l) : ∃ i, i < l.length ∧ l.getD i (0, 0) = r := by
  obtain ⟨i, hi, e⟩ := List.mem_iff_getElem.1 h
  exact ⟨i, hi, by simp [List.getD, hi, e]⟩

theorem At.find_no {l : List (Int × Int)} {key : Int} {k : Nat} (h : At l key k false) (ok : Ok l) : find key l = -1 := by
  refine find_none key l fun r hr e => ?_
  obtain ⟨i, hi, rfl⟩ := mem_getD hr
  by_cases hik : i < k
  · have := h.2.1 i hik; omega
  · have h3 := h.2.2.1 (by omega)
    have h4 := ok.mono k i (by omega) hi
    have h5 : (l.getD k (0, 0)).1 = key := by omega
    have := h.2.2.2.2 ⟨by omega, h5⟩
    simp at this

/-- The error that Find and Put share. -/
def asked (l : List (Int × Int)) (key : Int) : Int := if chk l ≠ 0 then chk l else if key < 0 ∨ 99 < key then 3 else 0
def findV (l : List (Int × Int)) (key : Int) : Int := if asked l key = 0 then find key l else 0
theorem asked_bad {l : List (Int × Int)} {key : Int} (h : chk l ≠ 0) : asked l key = chk l := by unfold asked; rw [if_pos h]
theorem asked_range {l : List (Int × Int)} {key : Int} (h : chk l = 0) (hk : key < 0 ∨ 99 < key) : asked l key = 3 := by unfold asked; rw [if_neg (by omega), if_pos hk]
theorem asked_ok {l : List (Int × Int)} {key : Int} (h : chk l = 0) (hk : 0 ≤ key) (hk2 : key ≤ 99) : asked l key = 0 := by unfold asked; rw [if_neg (by omega), if_neg (by omega)]
theorem asked_zero {l : List (Int × Int)} {key : Int} (h : asked l key = 0) : chk l = 0 ∧ 0 ≤ key ∧ key ≤ 99 := by
  unfold asked at h
  split at h
  · omega
  · split at h
    · omega
    · omega
theorem findV_no {l : List (Int × Int)} {key : Int} (h : asked l key ≠ 0) : findV l key = 0 := by unfold findV; rw [if_neg h]
theorem findV_ok {l : List (Int × Int)} {key : Int} (h : asked l key = 0) : findV l key = find key l := by unfold findV; rw [if_pos h]

theorem find_step (key : Int) (l : List (Int × Int)) (k : Nat) (h : k < l.length) (x y : Int) (e : l.getD k (0, 0) = (x, y)) (hx : x ≠ key) : find key (l.drop k) = find key (l.drop (k + 1)) := by
  rw [drop_at l k h, e, find, if_neg hx]
theorem find_here (key : Int) (l : List (Int × Int)) (k : Nat) (h : k < l.length) (x y : Int) (e : l.getD k (0, 0) = (x, y)) (hx : x = key) : find key (l.drop k) = y := by
  rw [drop_at l k h, e, find, if_pos hx]
theorem find_end (key : Int) (l : List (Int × Int)) (k : Nat) (h : l.length ≤ k) : find key (l.drop k) = -1 := by
  rw [List.drop_eq_nil_of_le h]; rfl

end Go.Proofs.YtcgpgflnihjpiagGreat.M

/- Plain facts on commits, with no program in sight. -/
namespace Go.Proofs.YtcgpgflnihjpiagGreat.M

/-- A commit: its rows, its parents. -/
abbrev Com := List (Int × Int) × List Int
/-- Parents that rise behind one, below n. -/
def ris (n : Nat) (ah : Int) : List Int → Bool
  | [] => true
  | p :: t => decide (ah < p ∧ p < (n : Int)) && ris n p t
def pr (n : Nat) (ps : List Int) : Bool := decide (ps.length ≤ 2) && ris n (-1) ps
def dchkF (n : Nat) : List Com → Int
  | [] => 0
  | c :: t => if chk c.1 ≠ 0 then chk c.1 else if pr n c.2 = true then dchkF (n + 1) t else 1
/-- The error of commits. -/
def dchk (L : List Com) : Int := if 14 < L.length then 2 else dchkF 0 L

theorem dchk_many (L : List Com) (h : 14 < L.length) : dchk L = 2 := by unfold dchk; rw [if_pos h]
theorem dchk_few (L : List Com) (h : L.length ≤ 14) : dchk L = dchkF 0 L := by unfold dchk; rw [if_neg (by omega)]

theorem idrop (l : List Int) (k : Nat) (h : k < l.length) : l.drop k = l.getD k 0 :: l.drop (k + 1) := by
  rw [List.drop_eq_getElem_cons h]; simp [List.getD, h]
theorem cdrop (l : List Com) (k : Nat) (h : k < l.length) : l.drop k = l.getD k ([], []) :: l.drop (k + 1) := by
  rw [List.drop_eq_getElem_cons h]; simp [List.getD, h]

theorem ris_bad (n : Nat) (ah : Int) (l : List Int) (k : Nat) (h : k < l.length) (p : Int) (e : l.getD k 0 = p) (hb : p ≤ ah ∨ (n : Int) ≤ p) : ris n ah (l.drop k) = false := by
  rw [idrop l k h, e, ris, decide_eq_false (by omega)]; rfl
theorem ris_good (n : Nat) (ah : Int) (l : List Int) (k : Nat) (h : k < l.length) (p : Int) (e : l.getD k 0 = p) (h1 : ah < p) (h2 : p < (n : Int)) : ris n ah (l.drop k) = ris n p (l.drop (k + 1)) := by
  rw [idrop l k h, e, ris, decide_eq_true ⟨h1, h2⟩]; rfl
theorem ris_end (n : Nat) (ah : Int) (l : List Int) (k : Nat) (h : l.length ≤ k) : ris n ah (l.drop k) = true := by
  rw [List.drop_eq_nil_of_le h]; rfl
theorem ris_mem {n : Nat} {ah : Int} {l : List Int} (h : ris n ah l = true) : ∀ p ∈ l, ah < p ∧ p < (n : Int) := by
  induction l generalizing ah with
  | nil => simp
  | cons q t ih =>
    simp only [ris, Bool.and_eq_true, decide_eq_true_eq] at h
    intro p hp
    rcases List.mem_cons.1 hp with rfl | hp
    · exact h.1
    · have := ih h.2 p hp; omega
theorem pr_long (n : Nat) (l : List Int) (h : 2 < l.length) : pr n l = false := by unfold pr; rw [decide_eq_false (by omega)]; rfl
theorem pr_short (n : Nat) (l : List Int) (h : l.length ≤ 2) : pr n l = ris n (-1) l := by unfold pr; rw [decide_eq_true h]; rfl

theorem dchkF_bad (n : Nat) (L : List Com) (h : n < L.length) (c : Com) (e : L.getD n ([], []) = c) (hb : chk c.1 ≠ 0) : dchkF n (L.drop n) = chk c.1 := by
  rw [cdrop L n h, e, dchkF, if_pos hb]
theorem dchkF_form (n : Nat) (L : List Com) (h : n < L.length) (c : Com) (e : L.getD n ([], []) = c) (h1 : chk c.1 = 0) (hb : pr n c.2 = false) : dchkF n (L.drop n) = 1 := by
  rw [cdrop L n h, e, dchkF, if_neg (by omega), if_neg (by simp [hb])]
theorem dchkF_good (n : Nat) (L : List Com) (h : n < L.length) (c : Com) (e : L.getD n ([], []) = c) (h1 : chk c.1 = 0) (hb : pr n c.2 = true) : dchkF n (L.drop n) = dchkF (n + 1) (L.drop (n + 1)) := by
  rw [cdrop L n h, e, dchkF, if_neg (by omega), if_pos hb]
theorem dchkF_end (n : Nat) (L : List Com) (h : L.length ≤ n) : dchkF n (L.drop n) = 0 := by
  rw [List.drop_eq_nil_of_le h]; rfl

/-- Right commits. -/
def Right (L : List Com) : Prop := ∀ i, i < L.length → chk (L.getD i ([], [])).1 = 0 ∧ (L.getD i ([], [])).2.length ≤ 2 ∧ ∀ p ∈ (L.getD i ([], [])).2, 0 ≤ p ∧ p < (i : Int)

theorem dchkF_right (n : Nat) (L : List Com) (h : dchkF n L = 0) : ∀ i, i < L.length → chk (L.getD i ([], [])).1 = 0 ∧ (L.getD i ([], [])).2.length ≤ 2 ∧ ∀ p ∈ (L.getD i ([], [])).2, 0 ≤ p ∧ p < ((n + i : Nat) : Int) := by
  induction L generalizing n with
  | nil => intro i hi; simp at hi
  | cons c t ih =>
    rw [dchkF] at h
    by_cases h1 : chk c.1 = 0
    · rw [if_neg (by omega)] at h
      by_cases h2 : pr n c.2 = true
      · rw [if_pos h2] at h
        intro i hi
        cases i with
        | zero =>
          have h3 := h2
          unfold pr at h3
          simp only [Bool.and_eq_true, decide_eq_true_eq] at h3
          refine ⟨h1, h3.1, fun p hp => ?_⟩
          have := ris_mem h3.2 p hp
          simp only [Nat.add_zero]
          omega
        | succ i =>
          have := ih (n + 1) h i (by simpa using hi)
          rw [show n + (i + 1) = n + 1 + i by omega]
          simpa [List.getD] using this
      · rw [if_neg h2] at h; omega
    · rw [if_pos h1] at h; omega

theorem dchk_zero {L : List Com} (h : dchk L = 0) : L.length ≤ 14 ∧ Right L := by
  unfold dchk at h
  by_cases h1 : 14 < L.length
  · rw [if_pos h1] at h; omega
  · rw [if_neg h1] at h
    refine ⟨by omega, fun i hi => ?_⟩
    have := dchkF_right 0 L h i hi
    simpa using this

/-- Marks, and some more. -/
def mark (m : List Bool) (ps : List Int) : List Bool := ps.foldl (fun m p => m.set p.toNat true) m
theorem mark_len (m : List Bool) (ps : List Int) : (mark m ps).length = m.length := by
  unfold mark
  induction ps generalizing m with
  | nil => rfl
  | cons p t ih => rw [List.foldl_cons, ih]; simp
theorem mark_nil (m : List Bool) : mark m [] = m := rfl
theorem mark_take (m : List Bool) (ps : List Int) (k : Nat) (h : k < ps.length) : mark m (ps.take (k + 1)) = (mark m (ps.take k)).set (ps.getD k 0).toNat true := by
  unfold mark
  rw [List.take_succ_eq_append_getElem h, List.foldl_append]
  simp [List.getD, h]
theorem set_get_bool (m : List Bool) (i j : Nat) (h : i < m.length) : (m.set i true).getD j false = true ↔ i = j ∨ m.getD j false = true := by
  simp only [List.getD, List.getElem?_set]
  by_cases e : i = j
  · subst e; simp [h]
  · simp [e]
theorem mark_get (m : List Bool) (ps : List Int) (h : ∀ p ∈ ps, p.toNat < m.length) (j : Nat) : (mark m ps).getD j false = true ↔ m.getD j false = true ∨ ∃ p ∈ ps, p.toNat = j := by
  induction ps generalizing m with
  | nil => simp [mark]
  | cons p t ih =>
    have e : mark m (p :: t) = mark (m.set p.toNat true) t := rfl
    rw [e, ih (m.set p.toNat true) (fun q hq => by simpa using h q (by simp [hq])), set_get_bool m _ _ (h p (by simp))]
    constructor
    · rintro ((h1 | h1) | ⟨q, hq, h1⟩)
      · exact Or.inr ⟨p, by simp, h1⟩
      · exact Or.inl h1
      · exact Or.inr ⟨q, by simp [hq], h1⟩
    · rintro (h1 | ⟨q, hq, h1⟩)
      · exact Or.inl (Or.inr h1)
      · rcases List.mem_cons.1 hq with rfl | hq
        · exact Or.inl (Or.inl h1)
        · exact Or.inr ⟨q, hq, h1⟩

/-- Going down from the k-th. -/
def aboveF (L : List Com) : Nat → List Bool → List Bool
  | 0, m => m
  | k + 1, m => aboveF L k (if m.getD k false = true then mark m (L.getD k ([], [])).2 else m)
def above (L : List Com) (n : Nat) : List Bool := aboveF L (n + 1) ((List.replicate L.length false).set n true)
theorem aboveF_len (L : List Com) (k : Nat) (m : List Bool) : (aboveF L k m).length = m.length := by
  induction k generalizing m with
  | zero => rfl
  | succ k ih => rw [aboveF, ih]; split <;> simp [mark_len]
theorem above_len (L : List Com) (n : Nat) : (above L n).length = L.length := by unfold above; rw [aboveF_len]; simp

/-- k is n, or a parent of one that is above n. -/
inductive Anc (L : List Com) (n : Nat) : Nat → Prop
  | self : Anc L n n
  | up {j k : Nat} {p : Int} : Anc L n j → p ∈ (L.getD j ([], [])).2 → p.toNat = k → Anc L n k

theorem Anc.trans {L : List Com} {a b c : Nat} (h : Anc L a b) (k : Anc L b c) : Anc L a c := by
  induction k with
  | self => exact h
  | up _ h2 h3 ih => exact .up ih h2 h3
theorem Right.par {L : List Com} (R : Right L) {j : Nat} {p : Int} (hp : p ∈ (L.getD j ([], [])).2) : p.toNat < j ∧ j < L.length := by
  by_cases hj : j < L.length
  · have := (R j hj).2.2 p hp; omega
  · rw [show L.getD j ([], []) = ([], []) by simp [List.getD, hj]] at hp
    simp at hp
theorem Anc.le {L : List Com} (R : Right L) {n k : Nat} (h : Anc L n k) : k ≤ n := by
  induction h with
  | self => omega
  | up _ h2 h3 ih => have := R.par h2; omega
/-- Who is above n, and not n, is a parent of one that is above n. -/
theorem Anc.last {L : List Com} {n k : Nat} (h : Anc L n k) (hne : k ≠ n) : ∃ j p, Anc L n j ∧ p ∈ (L.getD j ([], [])).2 ∧ p.toNat = k := by
  cases h with
  | self => exact absurd rfl hne
  | up h1 h2 h3 => exact ⟨_, _, h1, h2, h3⟩

theorem aboveF_iff {L : List Com} (R : Right L) (n : Nat) (k : Nat) (m : List Bool) (hm : m.length = L.length) (hk : k ≤ L.length)
    (h1 : ∀ j, m.getD j false = true → Anc L n j) (h2 : m.getD n false = true)
    (h3 : ∀ j p, k ≤ j → m.getD j false = true → p ∈ (L.getD j ([], [])).2 → m.getD p.toNat false = true) (i : Nat) :
    (aboveF L k m).getD i false = true ↔ Anc L n i := by
  induction k generalizing m with
  | zero =>
    rw [aboveF]
    refine ⟨h1 i, fun h => ?_⟩
    induction h with
    | self => exact h2
    | up _ hp e ih => rw [← e]; exact h3 _ _ (by omega) ih hp
  | succ k ih =>
    rw [aboveF]
    by_cases hb : m.getD k false = true
    · rw [if_pos hb]
      have hps : ∀ p ∈ (L.getD k ([], [])).2, p.toNat < m.length := fun p hp => by have := R.par hp; omega
      have G := mark_get m (L.getD k ([], [])).2 hps
      refine ih (mark m (L.getD k ([], [])).2) (by rw [mark_len]; exact hm) (by omega) (fun j hj => ?_) ((G n).2 (Or.inl h2)) (fun j p hj hmj hp => ?_)
      · rcases (G j).1 hj with h | ⟨p, hp, e⟩
        · exact h1 j h
        · exact .up (h1 k hb) hp e
      · rcases (G j).1 hmj with h | ⟨q, hq, e⟩
        · by_cases ek : j = k
          · subst ek; exact (G _).2 (Or.inr ⟨p, hp, rfl⟩)
          · exact (G _).2 (Or.inl (h3 j p (by omega) h hp))
        · have := R.par hq; omega
    · rw [if_neg hb]
      refine ih m hm (by omega) h1 h2 (fun j p hj hmj hp => ?_)
      by_cases ek : j = k
      · subst ek; exact absurd hmj hb
      · exact h3 j p (by omega) hmj hp

theorem above_iff {L : List Com} (R : Right L) {n : Nat} (hn : n < L.length) (i : Nat) : (above L n).getD i false = true ↔ Anc L n i := by
  have S := set_get_bool (List.replicate L.length false) n
  have Z : ∀ j, (List.replicate L.length false).getD j false = false := fun j => by
    simp only [List.getD, List.getElem?_replicate]; split <;> rfl
  unfold above
  refine aboveF_iff R n (n + 1) _ (by simp) (by omega) (fun j hj => ?_) ((S n (by simpa using hn)).2 (Or.inl rfl)) (fun j p hj hmj _ => ?_) i
  · rcases (S j (by simpa using hn)).1 hj with rfl | h
    · exact .self
    · rw [Z] at h; simp at h
  · rcases (S j (by simpa using hn)).1 hmj with rfl | h
    · omega
    · rw [Z] at h; simp at h

/-- The numbers below k that p chooses. -/
def sel (p : Nat → Bool) : Nat → List Int
  | 0 => []
  | k + 1 => if p k = true then sel p k ++ [(k : Int)] else sel p k
theorem sel_congr (p q : Nat → Bool) (n : Nat) (h : ∀ k, k < n → p k = q k) : sel p n = sel q n := by
  induction n with
  | zero => rfl
  | succ n ih => rw [sel, sel, h n (by omega), ih fun k hk => h k (by omega)]
theorem sel_len (p : Nat → Bool) (n : Nat) : (sel p n).length ≤ n := by
  induction n with
  | zero => simp [sel]
  | succ n ih => rw [sel]; split
                 · simp; omega
                 · omega
theorem mem_sel (p : Nat → Bool) (n : Nat) (x : Int) : x ∈ sel p n ↔ ∃ k : Nat, k < n ∧ p k = true ∧ x = k := by
  induction n with
  | zero => simp [sel]
  | succ n ih =>
    rw [sel]
    split
    · rename_i h
      rw [List.mem_append, ih, List.mem_singleton]
      constructor
      · rintro (⟨k, h1, h2, h3⟩ | h1)
        · exact ⟨k, by omega, h2, h3⟩
        · exact ⟨n, by omega, h, h1⟩
      · rintro ⟨k, h1, h2, h3⟩
        by_cases e : k = n
        · subst e; exact Or.inr h3
        · exact Or.inl ⟨k, by omega, h2, h3⟩
    · rename_i h
      rw [ih]
      constructor
      · rintro ⟨k, h1, h2, h3⟩; exact ⟨k, by omega, h2, h3⟩
      · rintro ⟨k, h1, h2, h3⟩
        by_cases e : k = n
        · subst e; exact absurd h2 h
        · exact ⟨k, by omega, h2, h3⟩

/-- Above both. -/
def both (L : List Com) (a b k : Nat) : Bool := (above L a).getD k false && (above L b).getD k false
/-- Who is a parent of one of both among the first k. -/
def furF (L : List Com) (bo : Nat → Bool) : Nat → List Bool
  | 0 => List.replicate L.length false
  | k + 1 => if bo k = true then mark (furF L bo k) (L.getD k ([], [])).2 else furF L bo k
theorem furF_len (L : List Com) (bo : Nat → Bool) (k : Nat) : (furF L bo k).length = L.length := by
  induction k with
  | zero => simp [furF]
  | succ k ih => rw [furF]; split
                 · rw [mark_len, ih]
                 · exact ih
theorem furF_iff {L : List Com} (R : Right L) (bo : Nat → Bool) (k : Nat) (i : Nat) : (furF L bo k).getD i false = true ↔ ∃ j p, j < k ∧ bo j = true ∧ p ∈ (L.getD j ([], [])).2 ∧ p.toNat = i := by
  induction k with
  | zero =>
    rw [furF]
    constructor
    · intro h
      simp only [List.getD, List.getElem?_replicate] at h
      split at h <;> simp at h
    · rintro ⟨j, p, h, _⟩; omega
  | succ k ih =>
    rw [furF]
    split
    · rename_i hb
      rw [mark_get _ _ (fun p hp => by rw [furF_len]; have := R.par hp; omega), ih]
      constructor
      · rintro (⟨j, p, h1, h2⟩ | ⟨p, hp, e⟩)
        · exact ⟨j, p, by omega, h2⟩
        · exact ⟨k, p, by omega, hb, hp, e⟩
      · rintro ⟨j, p, h1, h2, h3, h4⟩
        by_cases e : j = k
        · subst e; exact Or.inr ⟨p, h3, h4⟩
        · exact Or.inl ⟨j, p, by omega, h2, h3, h4⟩
    · rename_i hb
      rw [ih]
      constructor
      · rintro ⟨j, p, h1, h2⟩; exact ⟨j, p, by omega, h2⟩
      · rintro ⟨j, p, h1, h2, h3, h4⟩
        by_cases e : j = k
        · subst e; exact absurd h2 hb
        · exact ⟨j, p, by omega, h2, h3, h4⟩
def isBase (L : List Com) (a b k : Nat) : Bool := both L a b k && !((furF L (both L a b) L.length).getD k false)
def bases (L : List Com) (a b : Nat) : List Int := sel (isBase L a b) L.length

theorem both_iff {L : List Com} (R : Right L) {a b : Nat} (ha : a < L.length) (hb : b < L.length) (k : Nat) : both L a b k = true ↔ Anc L a k ∧ Anc L b k := by
  unfold both; rw [Bool.and_eq_true, above_iff R ha, above_iff R hb]

/-- Above another one of both, or a parent of one of both: it is the same. -/
theorem further_iff {L : List Com} (R : Right L) {a b : Nat} (ha : a < L.length) (hb : b < L.length) (k : Nat) :
    (furF L (both L a b) L.length).getD k false = true ↔ ∃ i, k < i ∧ i < L.length ∧ both L a b i = true ∧ (above L i).getD k false = true := by
  rw [furF_iff R]
  constructor
  · rintro ⟨j, p, h1, h2, h3, h4⟩
    have := R.par h3
    exact ⟨j, by omega, h1, h2, (above_iff R h1 k).2 (.up .self h3 h4)⟩
  · rintro ⟨i, h1, h2, h3, h4⟩
    obtain ⟨j, p, hj, hp, e⟩ := ((above_iff R h2 k).1 h4).last (by omega)
    have hb2 := (both_iff R ha hb i).1 h3
    exact ⟨j, p, (R.par hp).2, (both_iff R ha hb j).2 ⟨hb2.1.trans hj, hb2.2.trans hj⟩, hp, e⟩

theorem isBase_iff {L : List Com} (R : Right L) {a b : Nat} (ha : a < L.length) (hb : b < L.length) (k : Nat) :
    isBase L a b k = true ↔ both L a b k = true ∧ ∀ i, k < i → i < L.length → both L a b i = true → (above L i).getD k false = false := by
  unfold isBase
  rw [Bool.and_eq_true]
  refine and_congr_right fun _ => ?_
  have h := further_iff R ha hb k
  constructor
  · intro hn i h1 h2 h3
    by_cases h4 : (above L i).getD k false = true
    · rw [h.2 ⟨i, h1, h2, h3, h4⟩] at hn; simp at hn
    · simpa using h4
  · intro hn
    by_cases h5 : (furF L (both L a b) L.length).getD k false = true
    · obtain ⟨i, h1, h2, h3, h4⟩ := h.1 h5
      rw [hn i h1 h2 h3] at h4; simp at h4
    · simpa using h5

/-- Whoever is above both is above one of the bases. -/
theorem under_base {L : List Com} (R : Right L) {a b : Nat} (ha : a < L.length) (hb : b < L.length) (k : Nat) (hk : both L a b k = true) :
    ∃ i, i < L.length ∧ isBase L a b i = true ∧ (above L i).getD k false = true := by
  have hkl : k ≤ a := ((both_iff R ha hb k).1 hk).1.le R
  -- the greatest one of both that k is above
  obtain ⟨d, hd⟩ : ∃ d, L.length - k ≤ d := ⟨_, Nat.le_refl _⟩
  have : ∀ d j, L.length - j ≤ d → j < L.length → both L a b j = true → (above L j).getD k false = true → ∃ i, i < L.length ∧ isBase L a b i = true ∧ (above L i).getD k false = true := by
    intro d
    induction d with
    | zero => intro j h1 h2; omega
    | succ d ih =>
      intro j h1 h2 h3 h4
      by_cases hbs : isBase L a b j = true
      · exact ⟨j, h2, hbs, h4⟩
      · have hf : (furF L (both L a b) L.length).getD j false = true := by
          unfold isBase at hbs
          rw [h3] at hbs
          simpa using hbs
        obtain ⟨i, g1, g2, g3, g4⟩ := (further_iff R ha hb j).1 hf
        exact ih i (by omega) g2 g3 ((above_iff R g2 k).2 (((above_iff R g2 j).1 g4).trans ((above_iff R h2 k).1 h4)))
  exact this d k hd (by omega) hk ((above_iff R (by omega) k).2 .self)
end Go.Proofs.YtcgpgflnihjpiagGreat.M

/- Plain facts on heads and repos, with no program in sight. -/
namespace Go.Proofs.YtcgpgflnihjpiagGreat.M
open Go.PlainAid

/-- A head: its name, its commit's number. -/
abbrev Hd := ByteArray × Int
def hd0 : Hd := (ByteArray.empty, 0)
/-- From byte k on: letters alone. -/
def lets (s : ByteArray) (k : Nat) : Bool := decide (∀ i, i < s.size → k ≤ i → 97 ≤ bt s i ∧ bt s i ≤ 122)
theorem lets_end (s : ByteArray) (k : Nat) (h : s.size ≤ k) : lets s k = true := by
  unfold lets; rw [decide_eq_true]; intro i h1 h2; omega
theorem lets_bad (s : ByteArray) (k : Nat) (h : k < s.size) (hb : bt s k < 97 ∨ 122 < bt s k) : lets s k = false := by
  unfold lets; rw [decide_eq_false]; intro hh; have := hh k h (Nat.le_refl _); omega
theorem lets_good (s : ByteArray) (k : Nat) (h1 : 97 ≤ bt s k) (h2 : bt s k ≤ 122) : lets s k = lets s (k + 1) := by
  unfold lets
  rw [decide_eq_decide]
  constructor
  · intro h i a b; exact h i a (by omega)
  · intro h i a b
    by_cases e : i = k
    · subst e; exact ⟨h1, h2⟩
    · exact h i a (by omega)
/-- A name. -/
def nam (s : ByteArray) : Bool := decide (0 < s.size) && (decide (s.size ≤ 8) && lets s 0)
theorem nam_none (s : ByteArray) (h : s.size = 0) : nam s = false := by unfold nam; rw [decide_eq_false (by omega)]; rfl
theorem nam_long (s : ByteArray) (h : 8 < s.size) : nam s = false := by unfold nam; rw [decide_eq_false (p := s.size ≤ 8) (by omega)]; simp
theorem nam_few (s : ByteArray) (h0 : 0 < s.size) (h : s.size ≤ 8) : nam s = lets s 0 := by unfold nam; rw [decide_eq_true h0, decide_eq_true h]; rfl
theorem bt_decode (s : ByteArray) (k : Nat) (h : k < s.size) (hb : bt s k < 128) : Utf8.decode s k = ((bt s k).toNat, 1) := by
  have e : bt s k = ((s[k]'h).toNat : Int) := (get_bt s k h).symm
  rw [decode_ascii s k h (by omega), e]; rfl
theorem far_decode (s : ByteArray) (k : Nat) (h : k < s.size) (hb : 128 ≤ bt s k) : 128 ≤ (Utf8.decode s k).1 := by
  have e : bt s k = ((s[k]'h).toNat : Int) := (get_bt s k h).symm
  have e2 : s.get! k = s[k]'h := by simp [ByteArray.get!, getElem!_pos, h]; rfl
  rw [Lib.decode_at, e2]
  have h8 : 128 ≤ (s[k]'h).toNat := by omega
  unfold Lib.decodeN
  repeat' split
  all_goals (simp only [ge_iff_le] at *; omega)

def less (s t : ByteArray) : Bool := Op.bytesLess s.toList t.toList
def alike (s t : ByteArray) : Bool := s.toList == t.toList
/-- Names that rise behind a name. -/
def riseF (s : ByteArray) : List Hd → Bool
  | [] => true
  | h :: t => less s h.1 && riseF h.1 t
def rise : List Hd → Bool
  | [] => true
  | h :: t => riseF h.1 t
def inside (n : Nat) (H : List Hd) : Bool := H.all fun h => decide (0 ≤ h.2 ∧ h.2 < (n : Int))
def named (H : List Hd) : Bool := H.all fun h => nam h.1
/-- The error of a repo. -/
def rchk (C : List Com) (H : List Hd) : Int :=
  if dchk C ≠ 0 then dchk C else if 4 < H.length then 2 else if named H = false then 4 else if inside C.length H = false then 1 else if rise H = false then 1 else 0
def idxF {α : Type} (p : α → Bool) : List α → Nat → Int
  | [], _ => -1
  | h :: t, k => if p h = true then (k : Int) else idxF p t (k + 1)
theorem hdrop (l : List Hd) (k : Nat) (h : k < l.length) : l.drop k = l.getD k hd0 :: l.drop (k + 1) := by
  rw [List.drop_eq_getElem_cons h]; simp [List.getD, h]
theorem idxF_neg {α : Type} (p : α → Bool) (l : List α) (k : Nat) : 0 ≤ idxF p l k ↔ l.any p = true := by
  induction l generalizing k with
  | nil => simp [idxF]
  | cons h t ih =>
    unfold idxF
    by_cases hp : p h = true
    · simp [hp]
    · rw [if_neg hp, ih]; simp [hp]
theorem idxF_range {α : Type} (p : α → Bool) (l : List α) (k : Nat) : idxF p l k = -1 ∨ ((k : Int) ≤ idxF p l k ∧ idxF p l k < ((k + l.length : Nat) : Int)) := by
  induction l generalizing k with
  | nil => exact Or.inl rfl
  | cons h t ih =>
    unfold idxF
    by_cases hp : p h = true
    · rw [if_pos hp]; right; simp; omega
    · rw [if_neg hp]
      rcases ih (k + 1) with e | ⟨h1, h2⟩
      · exact Or.inl e
      · right; simp at h2 ⊢; omega
theorem idxF_at {α : Type} (p : α → Bool) (l : List α) (k : Nat) (d : α) (h : 0 ≤ idxF p l k) : p (l.getD ((idxF p l k).toNat - k) d) = true := by
  induction l generalizing k with
  | nil => simp [idxF] at h
  | cons x t ih =>
    unfold idxF at h ⊢
    by_cases hp : p x = true
    · rw [if_pos hp]; simp [hp]
    · rw [if_neg hp] at h ⊢
      have h2 := ih (k + 1) h
      have hr := idxF_range p t (k + 1)
      have e : (idxF p t (k + 1)).toNat - k = ((idxF p t (k + 1)).toNat - (k + 1)) + 1 := by omega
      rw [e, List.getD_cons_succ]; exact h2
theorem idxF_no {α : Type} (p : α → Bool) (l : List α) (k : Nat) (d : α) (h : k < l.length) (hp : p (l.getD k d) = false) : idxF p (l.drop k) k = idxF p (l.drop (k + 1)) (k + 1) := by
  rw [List.drop_eq_getElem_cons h]
  have e : l[k] = l.getD k d := by simp [List.getD, h]
  rw [e]
  show (if _ then _ else _) = _
  rw [if_neg (by rw [hp]; simp)]
theorem idxF_yes {α : Type} (p : α → Bool) (l : List α) (k : Nat) (d : α) (h : k < l.length) (hp : p (l.getD k d) = true) : idxF p (l.drop k) k = (k : Int) := by
  rw [List.drop_eq_getElem_cons h]
  have e : l[k] = l.getD k d := by simp [List.getD, h]
  rw [e]
  show (if _ then _ else _) = _
  rw [if_pos hp]
theorem idxF_end {α : Type} (p : α → Bool) (l : List α) (k : Nat) (h : l.length ≤ k) : idxF p (l.drop k) k = -1 := by
  rw [List.drop_eq_nil_of_le h]; rfl
theorem leq_less : ∀ x y : List UInt8, (Op.bytesLess x y || x == y) = !Op.bytesLess y x
  | [], [] => rfl
  | [], b :: y => by simp [Op.bytesLess]
  | a :: x, [] => by simp [Op.bytesLess]
  | a :: x, b :: y => by
    have ih := leq_less x y
    rw [Op.bytesLess, Op.bytesLess]
    by_cases h1 : a < b
    · have h2 : ¬ b < a := by rw [UInt8.lt_iff_toNat_lt] at *; omega
      have h3 : b ≠ a := by intro e; subst e; rw [UInt8.lt_iff_toNat_lt] at *; omega
      simp [h1, h2, h3]
    · by_cases h2 : b < a
      · have h3 : a ≠ b := by intro e; subst e; exact h1 h2
        simp [h1, h2, h3]
      · have h3 : a = b := by
          apply UInt8.toNat_inj.1
          rw [UInt8.lt_iff_toNat_lt] at *; omega
        subst h3
        simp only [h1, decide_false, Bool.false_or, BEq.rfl, Bool.true_and]
        rw [← ih]
        simp
theorem leq_not (s t : ByteArray) : (Op.bytesLess s.toList t.toList || s.toList == t.toList) = !less t s := leq_less _ _
theorem riseF_none (H : List Hd) (h : named H = true) : riseF (ByteArray.mk #[]) H = rise H := by
  cases H with
  | nil => rfl
  | cons x t =>
    have hx : nam x.1 = true := by unfold named at h; simp at h; exact h.1
    have h0 : 0 < x.1.size := by
      unfold nam at hx; simp at hx; have := hx.1; omega
    show (less _ x.1 && riseF x.1 t) = riseF x.1 t
    have : less (ByteArray.mk #[]) x.1 = true := by
      unfold less
      rw [ByteArray.toList_eq, ByteArray.toList_eq]
      cases hd : x.1.data.toList with
      | nil =>
        have : x.1.size = 0 := by show x.1.data.size = 0; rw [← Array.length_toList, hd]; rfl
        omega
      | cons a l => simp [Op.bytesLess]
    rw [this]; rfl
theorem riseF_end (s : ByteArray) (H : List Hd) (k : Nat) (h : H.length ≤ k) : riseF s (H.drop k) = true := by rw [List.drop_eq_nil_of_le h]; rfl
theorem riseF_at (s : ByteArray) (H : List Hd) (k : Nat) (h : k < H.length) (x : Hd) (e : H.getD k hd0 = x) : riseF s (H.drop k) = (less s x.1 && riseF x.1 (H.drop (k + 1))) := by
  rw [hdrop H k h, e]; rfl
theorem named_any (H : List Hd) : H.any (fun h => !nam h.1) = !named H := by
  unfold named; rw [List.not_all_eq_any_not]
theorem inside_any (n : Nat) (H : List Hd) : H.any (fun h => !decide (0 ≤ h.2 ∧ h.2 < (n : Int))) = !inside n H := by
  unfold inside; rw [List.not_all_eq_any_not]
/-- Where a head of that name stands; -1: there is none. -/
def plc (H : List Hd) (s : ByteArray) : Int := idxF (fun h => alike h.1 s) H 0
/-- The error of a head's name in a repo. -/
def hchk (C : List Com) (H : List Hd) (s : ByteArray) : Int := if rchk C H ≠ 0 then rchk C H else if plc H s < 0 then 5 else 0
/-- Its commit. -/
def hat (C : List Com) (H : List Hd) (s : ByteArray) : Int := if hchk C H s ≠ 0 then 0 else (H.getD (plc H s).toNat hd0).2
/-- The numbers of those of the first k that are so, falling. -/
def fallF (b : List Bool) : Nat → List Int
  | 0 => []
  | k + 1 => if b.getD k false = true then (k : Int) :: fallF b k else fallF b k
def logL (C : List Com) (H : List Hd) (s : ByteArray) : List Int := if hchk C H s ≠ 0 then [] else fallF (above C (hat C H s).toNat) C.length
theorem fallF_len (b : List Bool) (k : Nat) : (fallF b k).length ≤ k := by
  induction k with
  | zero => simp [fallF]
  | succ k ih =>
    unfold fallF
    split
    · simp; omega
    · omega
theorem rchk_zero {C : List Com} {H : List Hd} (h : rchk C H = 0) : dchk C = 0 ∧ H.length ≤ 4 ∧ named H = true ∧ inside C.length H = true ∧ rise H = true := by
  unfold rchk at h
  split at h
  · rename_i h1; exact absurd h h1
  · rename_i h1
    split at h
    · omega
    · split at h
      · omega
      · split at h
        · omega
        · split at h
          · omega
          · rename_i a b c d
            exact ⟨by simpa using h1, by omega, by simpa using b, by simpa using c, by simpa using d⟩
theorem hchk_zero {C : List Com} {H : List Hd} {s : ByteArray} (h : hchk C H s = 0) : rchk C H = 0 ∧ 0 ≤ plc H s := by
  unfold hchk at h
  split at h
  · rename_i h1; exact absurd h h1
  · rename_i h1
    split at h
    · omega
    · exact ⟨by simpa using h1, by omega⟩
theorem plc_lt (H : List Hd) (s : ByteArray) : plc H s = -1 ∨ (0 ≤ plc H s ∧ plc H s < (H.length : Int)) := by
  have := idxF_range (fun h : Hd => alike h.1 s) H 0
  unfold plc
  simpa using this
theorem inside_at {n : Nat} {H : List Hd} (h : inside n H = true) (k : Nat) (hk : k < H.length) : 0 ≤ (H.getD k hd0).2 ∧ (H.getD k hd0).2 < (n : Int) := by
  unfold inside at h
  rw [List.all_eq_true] at h
  have e : H.getD k hd0 = H[k] := by simp [List.getD, hk]
  have := h H[k] (List.getElem_mem hk)
  rw [e]; simpa using this
theorem rise_cons (x y : Hd) (t : List Hd) : rise (x :: y :: t) = (less x.1 y.1 && rise (y :: t)) := rfl
theorem rise_iff : ∀ H : List Hd, rise H = true ↔ ∀ k, k + 1 < H.length → less (H.getD k hd0).1 (H.getD (k + 1) hd0).1 = true
  | [] => by simp [rise]
  | [x] => by simp [rise, riseF]
  | x :: y :: t => by
    rw [rise_cons, Bool.and_eq_true, rise_iff (y :: t)]
    constructor
    · rintro ⟨h1, h2⟩ k hk
      cases k with
      | zero => exact h1
      | succ k =>
        have := h2 k (by simpa using hk)
        simpa using this
    · intro h
      refine ⟨h 0 (by simp), fun k hk => ?_⟩
      have := h (k + 1) (by simpa using hk)
      simpa using this
theorem inside_iff (n : Nat) (H : List Hd) : inside n H = true ↔ ∀ k, k < H.length → 0 ≤ (H.getD k hd0).2 ∧ (H.getD k hd0).2 < (n : Int) := by
  constructor
  · exact fun h k hk => inside_at h k hk
  · intro h
    unfold inside
    rw [List.all_eq_true]
    intro x hx
    obtain ⟨i, hi, e⟩ := List.getElem_of_mem hx
    have := h i hi
    rw [show H.getD i hd0 = x by simp [List.getD, hi, e]] at this
    simpa using this
/-- The heads ahead of k are in order, and inside. -/
def fineTo (n : Nat) (H : List Hd) (k : Nat) : Prop := ∀ j, j < k → (∀ i, i + 1 = j → less (H.getD i hd0).1 (H.getD j hd0).1 = true) ∧ 0 ≤ (H.getD j hd0).2 ∧ (H.getD j hd0).2 < (n : Int)
theorem fineTo_end {n : Nat} {H : List Hd} (h : fineTo n H H.length) : inside n H = true ∧ rise H = true :=
  ⟨(inside_iff n H).2 fun k hk => (h k hk).2, (rise_iff H).2 fun k hk => (h (k + 1) hk).1 k rfl⟩
theorem fineTo_bad {n : Nat} {H : List Hd} {k : Nat} (hk : k < H.length) (hb : (∃ i, i + 1 = k ∧ less (H.getD i hd0).1 (H.getD k hd0).1 = false) ∨ (H.getD k hd0).2 < 0 ∨ (n : Int) ≤ (H.getD k hd0).2) : inside n H = false ∨ rise H = false := by
  by_cases h1 : inside n H = false
  · exact Or.inl h1
  · right
    have h1 : inside n H = true := by simpa using h1
    have h2 := (inside_iff n H).1 h1 k hk
    rcases hb with ⟨i, hi, hl⟩ | hb
    · by_cases h3 : rise H = true
      · subst hi
        have := (rise_iff H).1 h3 i hk
        rw [hl] at this; simp at this
      · simpa using h3
    · omega
theorem fineTo_next {n : Nat} {H : List Hd} {k : Nat} (h : fineTo n H k) (h1 : ∀ i, i + 1 = k → less (H.getD i hd0).1 (H.getD k hd0).1 = true) (h2 : 0 ≤ (H.getD k hd0).2 ∧ (H.getD k hd0).2 < (n : Int)) : fineTo n H (k + 1) := by
  intro j hj
  by_cases e : j = k
  · subst e; exact ⟨h1, h2⟩
  · exact h j (by omega)
theorem named_at {H : List Hd} (h : ∀ k, k < H.length → nam (H.getD k hd0).1 = true) : named H = true := by
  unfold named
  rw [List.all_eq_true]
  intro x hx
  obtain ⟨i, hi, e⟩ := List.getElem_of_mem hx
  have := h i hi
  rw [show H.getD i hd0 = x by simp [List.getD, hi, e]] at this
  exact this
theorem named_no {H : List Hd} {k : Nat} (hk : k < H.length) (h : nam (H.getD k hd0).1 = false) : named H = false := by
  unfold named
  rw [List.all_eq_false]
  exact ⟨H[k], List.getElem_mem hk, by have e : H.getD k hd0 = H[k] := by simp [List.getD, hk]
                                       rw [← e, h]; simp⟩
theorem hat_in {C : List Com} {H : List Hd} {s : ByteArray} (h : hchk C H s = 0) : 0 ≤ hat C H s ∧ hat C H s < (C.length : Int) := by
  obtain ⟨h1, h2⟩ := hchk_zero h
  unfold hat
  rw [if_neg (by simpa using h)]
  have hp := plc_lt H s
  exact inside_at (rchk_zero h1).2.2.2.1 _ (by omega)
end Go.Proofs.YtcgpgflnihjpiagGreat.M

/- What a slice of rows holds in memory, and the closed facts of the dump that all walks share. -/
namespace Go.Proofs.YtcgpgflnihjpiagGreat
open Go.RowKit

theorem ret_int {k : IntKind} {a b : Int} (h : a = b) : Ending.returned (.int k a) = .returned (.int k b) := by rw [h]

theorem ret_bool {a b : Bool} (h : a = b) : Ending.returned (.bool a) = .returned (.bool b) := by rw [h]

theorem ret_two {k : IntKind} {a a' : Int} {v : Value} (h : a = a') : Ending.returned (.tuple #[.int k a, v]) = .returned (.tuple #[.int k a', v]) := by rw [h]

/-- The slice at a, of n rows, holds the rows l. -/
def Rd (w : World) (a : Option Addr) (n : Nat) (l : List (Int × Int)) : Prop :=
  l.length = n ∧ (n = 0 ∨ ∃ b off, a = some ⟨b, off, none⟩ ∧ b < w.heap.size ∧ ∀ i, i < n → w.cell? ⟨b, off + i * 2, none⟩ = some (.int .i64 (l.getD i (0, 0)).1) ∧ w.cell? ⟨b, off + i * 2 + 1, none⟩ = some (.int .i64 (l.getD i (0, 0)).2))

theorem Rd.below {w w' : World} {a : Option Addr} {n : Nat} {l : List (Int × Int)} (h : Rd w a n l) {B : Nat} (hb : Below B w w') (hB : w.heap.size ≤ B) : Rd w' a n l := by
  obtain ⟨h1, h2⟩ := h
  refine ⟨h1, ?_⟩
  rcases h2 with h2 | ⟨b, off, ha, hlt, hc⟩
  · exact Or.inl h2
  · refine Or.inr ⟨b, off, ha, Nat.lt_of_lt_of_le hlt hb.size, fun i hi => ?_⟩
    rw [hb.cell (p := ⟨b, off + i * 2, none⟩) (by show b < B; omega), hb.cell (p := ⟨b, off + i * 2 + 1, none⟩) (by show b < B; omega)]
    exact hc i hi

/-- The two ways in which a slice of rows comes: none there, or an address that is known. -/
theorem Rd.cases {w : World} {a : Option Addr} {n : Nat} {l : List (Int × Int)} (h : Rd w a n l) : (n = 0 ∧ l = []) ∨ ∃ b off, a = some ⟨b, off, none⟩ ∧ 0 < n ∧ l.length = n ∧ b < w.heap.size ∧ ∀ i, i < n → w.cell? ⟨b, off + i * 2, none⟩ = some (.int .i64 (l.getD i (0, 0)).1) ∧ w.cell? ⟨b, off + i * 2 + 1, none⟩ = some (.int .i64 (l.getD i (0, 0)).2) := by
  obtain ⟨h1, h2⟩ := h
  by_cases hn : n = 0
  · exact Or.inl ⟨hn, List.eq_nil_of_length_eq_zero (by omega)⟩
  · rcases h2 with h2 | ⟨b, off, ha, hlt, hc⟩
    · exact absurd h2 hn
    · exact Or.inr ⟨b, off, ha, by omega, h1, hlt, hc⟩

end Go.Proofs.YtcgpgflnihjpiagGreat

/- rows.Check answers what the plain function chk says. -/
namespace Go.Proofs.YtcgpgflnihjpiagGreat
open Go.RowKit

theorem check_many (a : Option Addr) (n cap : Nat) (w : World) (h : 40 < n) (hm : n ≤ 9223372036854775807) :
    Calls Tryz.prog 47 #[.slice a n cap] w fun e w' => e = .returned (.int .i64 2) ∧ w' = w := by
  go_enter Tryz.func47, Tryz.ntmps47
  go_wp2
  go_ret
  exact ⟨rfl, rfl⟩

theorem check_none (a : Option Addr) (cap : Nat) (w : World) :
    Calls Tryz.prog 47 #[.slice a 0 cap] w fun e w' => e = .returned (.int .i64 0) ∧ w' = w := by
  go_enter Tryz.func47, Tryz.ntmps47
  go_wp2
  refine wp_loop_rounds 1 ?_
  rw [rounds_succ]
  go_wp2
  go_ret
  exact ⟨rfl, rfl⟩

set_option maxHeartbeats 1000000 in
theorem check_some (b off n cap : Nat) (l : List (Int × Int)) (w : World) (hn : n ≤ 40) (hl : l.length = n) (hB : b < w.heap.size)
    (hc : ∀ i, i < n → w.cell? ⟨b, off + i * 2, none⟩ = some (.int .i64 (l.getD i (0, 0)).1) ∧ w.cell? ⟨b, off + i * 2 + 1, none⟩ = some (.int .i64 (l.getD i (0, 0)).2)) :
    Calls Tryz.prog 47 #[.slice (some ⟨b, off, none⟩) n cap] w fun e w' => e = .returned (.int .i64 (M.chkFrom (-1) l)) ∧ Below w.heap.size w w' := by
  have HC : Aside (∀ i, i < n → w.cell? ⟨b, off + i * 2, none⟩ = some (.int .i64 (l.getD i (0, 0)).1) ∧ w.cell? ⟨b, off + i * 2 + 1, none⟩ = some (.int .i64 (l.getD i (0, 0)).2)) := hc
  have HL : Aside (l.length = n) := hl
  clear hc hl
  go_enter Tryz.func47, Tryz.ntmps47
  go_wp2
  go_loopg [3, 11] n (fun g ah i wr => ∃ (k : Nat) (q : Int), k + g = n ∧ i = .int .i64 k ∧ ah = .int .i64 q ∧ Below w.heap.size w wr ∧ Aside (M.chkFrom q (l.drop k) = M.chkFrom (-1) l))
  case atStart => exact ⟨0, -1, by omega, rfl, rfl, Below.refl _ _, by simp [Aside]⟩
  case round =>
    obtain ⟨k, q, hk, rfl, rfl, hbel, A⟩ := hrel
    have hsz := hbel.size
    by_cases hlt : k < n
    · obtain ⟨x, y, hxy⟩ : ∃ x y, l.getD k (0, 0) = (x, y) := ⟨_, _, rfl⟩
      have c0 : wr.cell? ⟨b, off + k * 2, none⟩ = some (.int .i64 x) := by rw [hbel.cell (p := ⟨b, off + k * 2, none⟩) hB, (HC.out k hlt).1, hxy]
      have c1 : wr.cell? ⟨b, off + k * 2 + 1, none⟩ = some (.int .i64 y) := by rw [hbel.cell (p := ⟨b, off + k * 2 + 1, none⟩) hB, (HC.out k hlt).2, hxy]
      have HXY : Aside (l.getD k (0, 0) = (x, y)) := hxy
      clear hxy
      go_wp2
      all_goals first
        | (go_ret
           exact ⟨ret_int (A.out.symm.trans (M.chkFrom_bad q l k (by rw [HL.out]; exact hlt) x y HXY.out (by omega))).symm, hbel.alloc hsz _⟩)
        | (go_roundg (gk - 1)
           case measure => omega
           case rel => exact ⟨k + 1, x, by omega, by go_num, rfl, hbel.alloc hsz _, by unfold Aside; rw [← A.out, M.chkFrom_good q l k (by rw [HL.out]; exact hlt) x y HXY.out (by omega) (by omega) (by omega) (by omega)]⟩)
    · go_wp2
      go_ret
      exact ⟨ret_int (A.out.symm.trans (M.chkFrom_end q l k (by rw [HL.out]; omega))).symm, hbel⟩

theorem check_any (a : Option Addr) (n cap : Nat) (l : List (Int × Int)) (w : World) (h : Rd w a n l) (hm : n ≤ 9223372036854775807) :
    Calls Tryz.prog 47 #[.slice a n cap] w fun e w' => e = .returned (.int .i64 (M.chk l)) ∧ Below w.heap.size w w' := by
  by_cases h40 : 40 < n
  · refine (check_many a n cap w h40 hm).mono ?_
    rintro e w' ⟨rfl, rfl⟩
    exact ⟨by rw [M.chk_many l (by rw [h.1]; exact h40)], Below.refl _ _⟩
  · have e := M.chk_few l (by rw [h.1]; omega)
    rcases h.cases with ⟨rfl, rfl⟩ | ⟨b, off, rfl, hn, hl, hB, hc⟩
    · refine (check_none a cap w).mono ?_
      rintro e w' ⟨rfl, rfl⟩
      exact ⟨rfl, Below.refl _ _⟩
    · rw [e]
      exact check_some b off n cap l w (by omega) hl hB hc
end Go.Proofs.YtcgpgflnihjpiagGreat

/- The reference's small functions: within, isKey, RowsError, valueOf, FindOf. -/
namespace Go.Proofs.YtcgpgflnihjpiagGreat
open Go.RowKit

theorem within_yes (x lo hi : Int) (w : World) (h1 : lo ≤ x) (h2 : x ≤ hi) :
    Calls Tryz.prog 45 #[.int .i64 x, .int .i64 lo, .int .i64 hi] w fun e w' => e = .returned (.bool true) ∧ w' = w := by
  go_enter Tryz.func45, Tryz.ntmps45
  go_wp2
  go_ret
  exact ⟨rfl, rfl⟩
theorem within_no (x lo hi : Int) (w : World) (h : x < lo ∨ hi < x) :
    Calls Tryz.prog 45 #[.int .i64 x, .int .i64 lo, .int .i64 hi] w fun e w' => e = .returned (.bool false) ∧ w' = w := by
  by_cases h1 : lo ≤ x
  · have h2 : hi < x := by omega
    have hd : decide (x ≤ hi) = false := by simp; omega
    clear h
    go_enter Tryz.func45, Tryz.ntmps45
    go_wp2
    go_ret
    exact ⟨rfl, rfl⟩
  · have h2 : x < lo := by omega
    clear h h1
    go_enter Tryz.func45, Tryz.ntmps45
    go_wp2
    go_ret
    exact ⟨rfl, rfl⟩
theorem isKey_yes (x : Int) (w : World) (h1 : 0 ≤ x) (h2 : x ≤ 99) :
    Calls Tryz.prog 46 #[.int .i64 x] w fun e w' => e = .returned (.bool true) ∧ w' = w := by
  go_enter Tryz.func46, Tryz.ntmps46
  go_wp2_with (go_at_call 45; refine (within_yes _ _ _ _ h1 h2).mono ?_; rintro e w' ⟨rfl, rfl⟩)
  go_ret
  exact ⟨rfl, rfl⟩
theorem isKey_no (x : Int) (w : World) (h : x < 0 ∨ 99 < x) :
    Calls Tryz.prog 46 #[.int .i64 x] w fun e w' => e = .returned (.bool false) ∧ w' = w := by
  have H : Hid (x < 0 ∨ 99 < x) := h
  clear h
  go_enter Tryz.func46, Tryz.ntmps46
  go_wp2_with (go_at_call 45; refine (within_no _ _ _ _ H.out).mono ?_; rintro e w' ⟨rfl, rfl⟩)
  go_ret
  exact ⟨rfl, rfl⟩

theorem error_many (a : Option Addr) (n cap : Nat) (w : World) (h : 40 < n) (hm : n ≤ 9223372036854775807) :
    Calls Tryz.prog 16 #[.slice a n cap] w fun e w' => e = .returned (.int .i64 2) ∧ w' = w := by
  go_enter Tryz.func16, Tryz.ntmps16
  go_wp2
  go_ret
  exact ⟨rfl, rfl⟩

theorem error_none (a : Option Addr) (cap : Nat) (w : World) :
    Calls Tryz.prog 16 #[.slice a 0 cap] w fun e w' => e = .returned (.int .i64 0) ∧ w' = w := by
  go_enter Tryz.func16, Tryz.ntmps16
  go_wp2
  refine wp_loop_rounds 1 ?_
  rw [rounds_succ]
  go_wp2
  go_ret
  exact ⟨rfl, rfl⟩

set_option maxHeartbeats 2000000 in
theorem error_some (b off n cap : Nat) (l : List (Int × Int)) (w : World) (hn : n ≤ 40) (hl : l.length = n) (hB : b < w.heap.size)
    (hc : ∀ i, i < n → w.cell? ⟨b, off + i * 2, none⟩ = some (.int .i64 (l.getD i (0, 0)).1) ∧ w.cell? ⟨b, off + i * 2 + 1, none⟩ = some (.int .i64 (l.getD i (0, 0)).2)) :
    Calls Tryz.prog 16 #[.slice (some ⟨b, off, none⟩) n cap] w fun e w' => e = .returned (.int .i64 (M.chkFrom (-1) l)) ∧ Below w.heap.size w w' := by
  have HC : Aside (∀ i, i < n → w.cell? ⟨b, off + i * 2, none⟩ = some (.int .i64 (l.getD i (0, 0)).1) ∧ w.cell? ⟨b, off + i * 2 + 1, none⟩ = some (.int .i64 (l.getD i (0, 0)).2)) := hc
  have HL : Aside (l.length = n) := hl
  clear hc hl
  go_enter Tryz.func16, Tryz.ntmps16
  go_wp2
  go_loopg [3] n (fun g i wr => ∃ (k : Nat) (q : Int), k + g = n ∧ -1 ≤ q ∧ i = .int .i64 k ∧ Below w.heap.size w wr ∧ Aside (q = M.prev l k) ∧ Aside (M.chkFrom q (l.drop k) = M.chkFrom (-1) l))
  case atStart => exact ⟨0, -1, by omega, by omega, rfl, Below.refl _ _, rfl, by simp [Aside]⟩
  case round =>
    obtain ⟨k, q, hk, hq1, rfl, hbel, A, A2⟩ := hrel
    have hsz := hbel.size
    by_cases hlt : k < n
    · obtain ⟨x, y, hxy⟩ : ∃ x y, l.getD k (0, 0) = (x, y) := ⟨_, _, rfl⟩
      have c0 : wr.cell? ⟨b, off + k * 2, none⟩ = some (.int .i64 x) := by rw [hbel.cell (p := ⟨b, off + k * 2, none⟩) hB, (HC.out k hlt).1, hxy]
      have c1 : wr.cell? ⟨b, off + k * 2 + 1, none⟩ = some (.int .i64 y) := by rw [hbel.cell (p := ⟨b, off + k * 2 + 1, none⟩) hB, (HC.out k hlt).2, hxy]
      have HXY : Aside (l.getD k (0, 0) = (x, y)) := hxy
      clear hxy
      have hki : (k : Int) < (n : Int) := by omega
      by_cases g1 : 0 ≤ x ∧ x ≤ 99
      · obtain ⟨g1, g2⟩ := g1
        by_cases g3 : 0 ≤ y ∧ y ≤ 996
        · obtain ⟨g3, g4⟩ := g3
          by_cases h0 : k = 0
          · have hg : decide (0 < k) = false := by simp; omega
            have H0 : Hid (k = 0) := h0
            clear h0
            go_wp2_with fail
            go_quiet ((first | (go_at_call 46; exact Calls.quiet_of_same (isKey_yes _ _ g1 g2)) | (go_at_call 45; exact Calls.quiet_of_same (within_yes _ _ _ _ g3 g4))))
            go_wp2
            go_roundg (gk - 1)
            case measure => omega
            case rel => exact ⟨k + 1, x, by omega, by omega, by go_num, below_drewN hbel _, by show x = (l.getD _ (0, 0)).1; rw [HXY.out], by unfold Aside; rw [← A2.out, M.chkFrom_good q l k (by rw [HL.out]; exact hlt) x y HXY.out (by have e := A.out; rw [H0.out] at e; have : q = -1 := e; omega) (by omega) (by omega) (by omega)]⟩
          · obtain ⟨j, rfl⟩ : ∃ j, k = j + 1 := ⟨k - 1, by omega⟩
            have cj : wr.cell? ⟨b, off + j * 2, none⟩ = some (.int .i64 (l.getD j (0, 0)).1) := by rw [hbel.cell (p := ⟨b, off + j * 2, none⟩) hB, (HC.out j (by omega)).1]
            obtain ⟨z, hz⟩ : ∃ z, z = (l.getD j (0, 0)).1 := ⟨_, rfl⟩
            rw [← hz] at cj
            have HZ : Hid (z = (l.getD j (0, 0)).1) := hz
            clear hz h0
            by_cases h5 : x ≤ z
            · go_wp2_with fail
              go_quiet ((first | (go_at_call 46; exact Calls.quiet_of_same (isKey_yes _ _ g1 g2)) | (go_at_call 45; exact Calls.quiet_of_same (within_yes _ _ _ _ g3 g4))))
              go_wp2
              go_ret
              exact ⟨ret_int (A2.out.symm.trans (M.chkFrom_bad q l (j + 1) (by rw [HL.out]; exact hlt) x y HXY.out (by have e := A.out; have : q = z := e.trans HZ.out.symm; omega))).symm, below_drewN hbel _⟩
            · have hg : decide (x ≤ z) = false := by simp; omega
              go_wp2_with fail
              go_quiet ((first | (go_at_call 46; exact Calls.quiet_of_same (isKey_yes _ _ g1 g2)) | (go_at_call 45; exact Calls.quiet_of_same (within_yes _ _ _ _ g3 g4))))
              go_wp2
              go_roundg (gk - 1)
              case measure => omega
              case rel => exact ⟨j + 1 + 1, x, by omega, by omega, by go_num, below_drewN hbel _, by show x = (l.getD _ (0, 0)).1; rw [HXY.out], by unfold Aside; rw [← A2.out, M.chkFrom_good q l (j + 1) (by rw [HL.out]; exact hlt) x y HXY.out (by have e := A.out; have : q = z := e.trans HZ.out.symm; omega) (by omega) (by omega) (by omega)]⟩
        · have g3' : y < 0 ∨ 996 < y := by omega
          have G : Hid (y < 0 ∨ 996 < y) := g3'
          clear g3 g3'
          go_wp2_with fail
          go_quiet ((first | (go_at_call 46; exact Calls.quiet_of_same (isKey_yes _ _ g1 g2)) | (go_at_call 45; exact Calls.quiet_of_same (within_no _ _ _ _ G.out))))
          go_wp2
          go_ret
          exact ⟨ret_int (A2.out.symm.trans (M.chkFrom_bad q l k (by rw [HL.out]; exact hlt) x y HXY.out (by have := G.out; omega))).symm, below_drewN hbel _⟩
      · have g3' : x < 0 ∨ 99 < x := by omega
        have G : Hid (x < 0 ∨ 99 < x) := g3'
        clear g1 g3'
        go_wp2_with fail
        go_quiet ((go_at_call 46; exact Calls.quiet_of_same (isKey_no _ _ G.out)))
        go_wp2
        go_ret
        exact ⟨ret_int (A2.out.symm.trans (M.chkFrom_bad q l k (by rw [HL.out]; exact hlt) x y HXY.out (by have := G.out; omega))).symm, below_drewN hbel _⟩
    · go_wp2
      go_ret
      exact ⟨ret_int (A2.out.symm.trans (M.chkFrom_end q l k (by rw [HL.out]; omega))).symm, hbel⟩

theorem error_any (a : Option Addr) (n cap : Nat) (l : List (Int × Int)) (w : World) (h : Rd w a n l) (hm : n ≤ 9223372036854775807) :
    Calls Tryz.prog 16 #[.slice a n cap] w fun e w' => e = .returned (.int .i64 (M.chk l)) ∧ Below w.heap.size w w' := by
  by_cases h40 : 40 < n
  · refine (error_many a n cap w h40 hm).mono ?_
    rintro e w' ⟨rfl, rfl⟩
    exact ⟨by rw [M.chk_many l (by rw [h.1]; exact h40)], Below.refl _ _⟩
  · have e := M.chk_few l (by rw [h.1]; omega)
    rcases h.cases with ⟨rfl, rfl⟩ | ⟨b, off, rfl, hn, hl, hB, hc⟩
    · refine (error_none a cap w).mono ?_
      rintro e w' ⟨rfl, rfl⟩
      exact ⟨rfl, Below.refl _ _⟩
    · rw [e]
      exact error_some b off n cap l w (by omega) hl hB hc
end Go.Proofs.YtcgpgflnihjpiagGreat

/- rows.checkAsked, place, sort.Search. -/
namespace Go.Proofs.YtcgpgflnihjpiagGreat
open Go.RowKit


theorem asked_bad (a : Option Addr) (n cap : Nat) (l : List (Int × Int)) (key : Int) (w : World) (h : Rd w a n l) (hm : n ≤ 9223372036854775807) (hb : M.chk l ≠ 0) :
    Calls Tryz.prog 151 #[.slice a n cap, .int .i64 key] w fun e w' => e = .returned (.int .i64 (M.chk l)) ∧ Below w.heap.size w w' := by
  have H := check_any a n cap l w h hm
  obtain ⟨c, hc⟩ : ∃ c, c = M.chk l := ⟨_, rfl⟩
  rw [← hc] at H hb ⊢
  clear hc h
  have hne : (c != 0) = true := by simp [hb]
  clear hb
  have HH : Hid (Calls Tryz.prog 47 #[.slice a n cap] w fun e w' => e = .returned (.int .i64 c) ∧ Below w.heap.size w w') := H
  clear H
  go_enter Tryz.func151, Tryz.ntmps151
  go_wp2_with (go_at_call 47; refine HH.out.mono ?_; rintro e w' ⟨rfl, hb1⟩)
  go_ret
  exact ⟨rfl, hb1⟩

theorem asked_range (a : Option Addr) (n cap : Nat) (l : List (Int × Int)) (key : Int) (w : World) (h : Rd w a n l) (hm : n ≤ 9223372036854775807) (hb : M.chk l = 0) (hk : key < 0 ∨ 99 < key) :
    Calls Tryz.prog 151 #[.slice a n cap, .int .i64 key] w fun e w' => e = .returned (.int .i64 3) ∧ Below w.heap.size w w' := by
  have H := check_any a n cap l w h hm
  rw [hb] at H
  clear hb h
  have HH : Hid (Calls Tryz.prog 47 #[.slice a n cap] w fun e w' => e = .returned (.int .i64 0) ∧ Below w.heap.size w w') := H
  clear H
  rcases hk with hk | hk
  · go_enter Tryz.func151, Tryz.ntmps151
    go_wp2_with (go_at_call 47; refine HH.out.mono ?_; rintro e w' ⟨rfl, hb1⟩)
    go_ret
    exact ⟨rfl, hb1⟩
  · have hk0 : ¬ key < 0 := by omega
    go_enter Tryz.func151, Tryz.ntmps151
    go_wp2_with (go_at_call 47; refine HH.out.mono ?_; rintro e w' ⟨rfl, hb1⟩)
    go_ret
    exact ⟨rfl, hb1⟩

theorem asked_ok (a : Option Addr) (n cap : Nat) (l : List (Int × Int)) (key : Int) (w : World) (h : Rd w a n l) (hm : n ≤ 9223372036854775807) (hb : M.chk l = 0) (hk : 0 ≤ key) (hk2 : key ≤ 99) :
    Calls Tryz.prog 151 #[.slice a n cap, .int .i64 key] w fun e w' => e = .returned (.int .i64 0) ∧ Below w.heap.size w w' := by
  have H := check_any a n cap l w h hm
  rw [hb] at H
  clear hb h
  have HH : Hid (Calls Tryz.prog 47 #[.slice a n cap] w fun e w' => e = .returned (.int .i64 0) ∧ Below w.heap.size w w') := H
  clear H
  go_enter Tryz.func151, Tryz.ntmps151
  go_wp2_with (go_at_call 47; refine HH.out.mono ?_; rintro e w' ⟨rfl, hb1⟩)
  go_ret
  exact ⟨rfl, hb1⟩

/-- The function literal: does the i-th row's key come up to the key? -/
theorem lit_any (b off n cap : Nat) (key x : Int) (p q i : Nat) (w : World) (hi : i < n)
    (hp : w.cell? ⟨p, 0, none⟩ = some (.slice (some ⟨b, off, none⟩) n cap)) (hq : w.cell? ⟨q, 0, none⟩ = some (.int .i64 key))
    (hx : w.cell? ⟨b, off + i * 2, none⟩ = some (.int .i64 x)) :
    Calls Tryz.prog 164 #[.int .i64 i, .pointer (some ⟨p, 0, none⟩), .pointer (some ⟨q, 0, none⟩)] w fun e w' => e = .returned (.bool (decide (key ≤ x))) ∧ ∃ m, w' = w.drewN m := by
  have hki : (i : Int) < (n : Int) := by omega
  go_enter Tryz.func164, Tryz.ntmps164
  go_wp2_with fail
  go_quiet (fail)
  go_wp2
  go_ret
  exact ⟨rfl, _, rfl⟩

set_option maxHeartbeats 1000000 in
theorem search_some (b off n cap : Nat) (l : List (Int × Int)) (key : Int) (p q : Nat) (w : World) (hn : n ≤ 40)
    (hp : w.cell? ⟨p, 0, none⟩ = some (.slice (some ⟨b, off, none⟩) n cap)) (hq : w.cell? ⟨q, 0, none⟩ = some (.int .i64 key))
    (hc : ∀ i, i < n → w.cell? ⟨b, off + i * 2, none⟩ = some (.int .i64 (l.getD i (0, 0)).1))
    (hs : ∀ i j, i ≤ j → j < n → (l.getD i (0, 0)).1 ≤ (l.getD j (0, 0)).1) :
    Calls Tryz.prog 163 #[.int .i64 n, .func (Fn.func 164) #[] #[.pointer (some ⟨p, 0, none⟩), .pointer (some ⟨q, 0, none⟩)]] w
      fun e w' => (∃ k : Nat, e = .returned (.int .i64 k) ∧ k ≤ n ∧ (∀ i, i < k → (l.getD i (0, 0)).1 < key) ∧ (k < n → key ≤ (l.getD k (0, 0)).1)) ∧ ∃ m, w' = w.drewN m := by
  have HC : Aside (∀ i, i < n → w.cell? ⟨b, off + i * 2, none⟩ = some (.int .i64 (l.getD i (0, 0)).1)) := hc
  have HS : Aside (∀ i j, i ≤ j → j < n → (l.getD i (0, 0)).1 ≤ (l.getD j (0, 0)).1) := hs
  have HP : Aside (w.cell? ⟨p, 0, none⟩ = some (.slice (some ⟨b, off, none⟩) n cap)) := hp
  have HQ : Aside (w.cell? ⟨q, 0, none⟩ = some (.int .i64 key)) := hq
  clear hc hs hp hq
  go_enter Tryz.func163, Tryz.ntmps163
  go_wp2
  go_loopg [5, 6] n (fun g vi vj wr => ∃ i j m : Nat, i ≤ j ∧ j ≤ n ∧ j - i ≤ g ∧ vi = .int .i64 i ∧ vj = .int .i64 j ∧ wr = w.drewN m ∧ Aside (∀ t, t < i → (l.getD t (0, 0)).1 < key) ∧ Aside (j < n → key ≤ (l.getD j (0, 0)).1))
  case atStart => exact ⟨0, n, 0, by omega, by omega, by omega, rfl, rfl, rfl, fun t h => by omega, fun h => by omega⟩
  case round =>
    obtain ⟨i, j, m, hij, hj, hg, rfl, rfl, rfl, A, A2⟩ := hrel
    by_cases hlt : i < j
    · obtain ⟨h, hh⟩ : ∃ h : Nat, h = (i + j) / 2 := ⟨_, rfl⟩
      have e1 : ((i : Int) + (j : Int)) / 2 = (h : Int) := by omega
      have h1 : i ≤ h := by omega
      have h2 : h < j := by omega
      clear hh
      have E1 : Hid (((i : Int) + (j : Int)) / 2 = (h : Int)) := e1
      clear e1
      obtain ⟨x, hx⟩ : ∃ x, x = (l.getD h (0, 0)).1 := ⟨_, rfl⟩
      have HX : Aside (x = (l.getD h (0, 0)).1) := hx
      have cx : (w.drewN m).cell? ⟨b, off + h * 2, none⟩ = some (.int .i64 x) := by rw [hx]; exact HC.out h (by omega)
      clear hx
      have cp : (w.drewN m).cell? ⟨p, 0, none⟩ = some (.slice (some ⟨b, off, none⟩) n cap) := HP.out
      have cq : (w.drewN m).cell? ⟨q, 0, none⟩ = some (.int .i64 key) := HQ.out
      have L := lit_any b off n cap key x p q h (w.drewN m) (by omega) cp cq cx
      have LH : Hid (Calls Tryz.prog 164 #[.int .i64 h, .pointer (some ⟨p, 0, none⟩), .pointer (some ⟨q, 0, none⟩)] (w.drewN m) fun e w' => e = .returned (.bool (decide (key ≤ x))) ∧ ∃ m', w' = (w.drewN m).drewN m') := L
      clear L cx cp cq
      by_cases hkx : key ≤ x
      · have hkd : decide (key ≤ x) = true := by simp [hkx]
        go_wp2_with fail
        rw [E1.out]
        refine LH.out.mono ?_
        rintro e w' ⟨rfl, m', rfl⟩
        go_wp2
        go_roundg (h - i)
        case measure => omega
        case rel => exact ⟨i, h, m + m', by omega, by omega, by omega, rfl, by go_num, rfl, A, fun _ => by rw [← HX.out]; exact hkx⟩
      · have hkd : decide (key ≤ x) = false := by simp [hkx]
        go_wp2_with fail
        rw [E1.out]
        refine LH.out.mono ?_
        rintro e w' ⟨rfl, m', rfl⟩
        go_wp2
        go_roundg (j - (h + 1))
        case measure => omega
        case rel => exact ⟨h + 1, j, m + m', by omega, by omega, by omega, by go_num, rfl, rfl, fun t ht => by have := HS.out t h (by omega) (by omega); have := HX.out; omega, A2⟩
    · go_wp2
      go_ret
      have : i = j := by omega
      subst this
      exact ⟨⟨i, rfl, hj, A.out, A2.out⟩, m, rfl⟩

set_option maxHeartbeats 1000000 in
theorem place_some (b off n cap : Nat) (l : List (Int × Int)) (key : Int) (w : World) (hn : n ≤ 40) (hB : b < w.heap.size)
    (hc : ∀ i, i < n → w.cell? ⟨b, off + i * 2, none⟩ = some (.int .i64 (l.getD i (0, 0)).1))
    (hs : ∀ i j, i ≤ j → j < n → (l.getD i (0, 0)).1 ≤ (l.getD j (0, 0)).1) :
    Calls Tryz.prog 152 #[.slice (some ⟨b, off, none⟩) n cap, .int .i64 key] w
      fun e w' => (∃ (k : Nat) (t : Bool), e = .returned (.tuple #[.int .i64 k, .bool t]) ∧ k ≤ n ∧ (∀ i, i < k → (l.getD i (0, 0)).1 < key) ∧ (k < n → key ≤ (l.getD k (0, 0)).1) ∧ (t = true ↔ k < n ∧ (l.getD k (0, 0)).1 = key)) ∧ Below w.heap.size w w' := by
  obtain ⟨W, hW⟩ : ∃ W, W = (w.alloc (.cells #[.slice (some ⟨b, off, none⟩) n cap] 47)).alloc (.cells #[.int .i64 key] 3) := ⟨_, rfl⟩
  have hbW : Below w.heap.size w W := by rw [hW]; exact ((Below.refl _ _).alloc (Nat.le_refl _) _).alloc (by simp) _
  have cW : ∀ i, i < n → W.cell? ⟨b, off + i * 2, none⟩ = some (.int .i64 (l.getD i (0, 0)).1) := fun i hi => (hbW.cell (p := ⟨b, off + i * 2, none⟩) hB).trans (hc i hi)
  have cp : W.cell? ⟨w.heap.size, 0, none⟩ = some (.slice (some ⟨b, off, none⟩) n cap) := by rw [hW]; simp [go_sem]
  have cq : W.cell? ⟨w.heap.size + 1, 0, none⟩ = some (.int .i64 key) := by rw [hW]; simp [go_sem]
  have S := search_some b off n cap l key w.heap.size (w.heap.size + 1) W hn cp cq cW hs
  have SH : Hid (Calls Tryz.prog 163 #[.int .i64 n, .func (Fn.func 164) #[] #[.pointer (some ⟨w.heap.size, 0, none⟩), .pointer (some ⟨w.heap.size + 1, 0, none⟩)]] W
      fun e w' => (∃ k : Nat, e = .returned (.int .i64 k) ∧ k ≤ n ∧ (∀ i, i < k → (l.getD i (0, 0)).1 < key) ∧ (k < n → key ≤ (l.getD k (0, 0)).1)) ∧ ∃ m, w' = W.drewN m) := S
  have HW : Hid (W = (w.alloc (.cells #[.slice (some ⟨b, off, none⟩) n cap] 47)).alloc (.cells #[.int .i64 key] 3)) := hW
  have CW : Hid (∀ i, i < n → W.cell? ⟨b, off + i * 2, none⟩ = some (.int .i64 (l.getD i (0, 0)).1)) := cW
  clear S hW hc hs cW
  go_enter Tryz.func152, Tryz.ntmps152
  go_wp2_with fail
  rw [← HW.out]
  refine SH.out.mono ?_
  rintro e w' ⟨⟨k, rfl, hk, h1, h2⟩, m, rfl⟩
  have H12 : Hid ((∀ i, i < k → (l.getD i (0, 0)).1 < key) ∧ (k < n → key ≤ (l.getD k (0, 0)).1)) := ⟨h1, h2⟩
  clear h1 h2
  have hbm := below_drewN hbW m
  by_cases hkn : k < n
  · obtain ⟨x, hx⟩ : ∃ x, x = (l.getD k (0, 0)).1 := ⟨_, rfl⟩
    have cx : W.cell? ⟨b, off + k * 2, none⟩ = some (.int .i64 x) := by rw [hx]; exact CW.out k hkn
    have HX : Hid (x = (l.getD k (0, 0)).1) := hx
    clear hx
    have hki : (k : Int) < (n : Int) := by omega
    go_wp2_with fail
    go_quiet (fail)
    go_wp2
    go_ret2
    exact ⟨⟨k, (x == key), rfl, hk, H12.out.1, H12.out.2, by rw [← HX.out]; simp [hkn]⟩, below_drewN hbm _⟩
  · have hd : decide (k < n) = false := by simp; omega
    go_wp2_with fail
    go_quiet (fail)
    go_wp2
    go_ret2
    exact ⟨⟨k, false, rfl, hk, H12.out.1, H12.out.2, by simp; omega⟩, below_drewN hbm _⟩

theorem search_none (f : Value) (w : World) :
    Calls Tryz.prog 163 #[.int .i64 0, f] w fun e w' => e = .returned (.int .i64 0) ∧ w' = w := by
  go_enter Tryz.func163, Tryz.ntmps163
  go_wp2
  refine wp_loop_rounds 1 ?_
  rw [rounds_succ]
  go_wp2
  go_ret
  exact ⟨rfl, rfl⟩

theorem place_none (a : Option Addr) (cap : Nat) (key : Int) (w : World) :
    Calls Tryz.prog 152 #[.slice a 0 cap, .int .i64 key] w fun e w' => e = .returned (.tuple #[.int .i64 0, .bool false]) ∧ Below w.heap.size w w' := by
  go_enter Tryz.func152, Tryz.ntmps152
  go_wp2_with fail
  refine (search_none _ _).mono ?_
  rintro e w' ⟨rfl, rfl⟩
  go_wp2_with fail
  go_quiet (fail)
  go_wp2
  go_ret2
  exact ⟨rfl, below_drewN (((Below.refl _ _).alloc (Nat.le_refl _) _).alloc (by simp) _) _⟩

theorem place_any (a : Option Addr) (n cap : Nat) (l : List (Int × Int)) (key : Int) (w : World) (h : Rd w a n l) (h0 : M.chk l = 0) :
    Calls Tryz.prog 152 #[.slice a n cap, .int .i64 key] w
      fun e w' => ∃ (k : Nat) (t : Bool), e = .returned (.tuple #[.int .i64 k, .bool t]) ∧ M.At l key k t ∧ Below w.heap.size w w' := by
  have hz := (M.chk_zero l).1 h0
  rcases h.cases with ⟨rfl, rfl⟩ | ⟨b, off, rfl, hn, hl, hB, hc⟩
  · refine (place_none a cap key w).mono ?_
    rintro e w' ⟨rfl, hb⟩
    exact ⟨0, false, rfl, ⟨by simp, fun i hi => by omega, fun h => by simp at h, by simp⟩, hb⟩
  · refine (place_some b off n cap l key w (by rw [← hl]; exact hz.1) hB (fun i hi => (hc i hi).1) (fun i j hij hj => hz.2.mono i j hij (by omega))).mono ?_
    rintro e w' ⟨⟨k, t, rfl, h1, h2, h3, h4⟩, hb⟩
    exact ⟨k, t, rfl, ⟨by omega, h2, fun h => h3 (by omega), by rw [hl]; exact h4⟩, hb⟩

theorem asked_any (a : Option Addr) (n cap : Nat) (l : List (Int × Int)) (key : Int) (w : World) (h : Rd w a n l) (hm : n ≤ 9223372036854775807) :
    Calls Tryz.prog 151 #[.slice a n cap, .int .i64 key] w fun e w' => e = .returned (.int .i64 (M.asked l key)) ∧ Below w.heap.size w w' := by
  by_cases hb : M.chk l = 0
  · by_cases hk : key < 0 ∨ 99 < key
    · rw [M.asked_range hb hk]; exact asked_range a n cap l key w h hm hb hk
    · rw [M.asked_ok hb (by omega) (by omega)]; exact asked_ok a n cap l key w h hm hb (by omega) (by omega)
  · rw [M.asked_bad hb]; exact asked_bad a n cap l key w h hm hb

end Go.Proofs.YtcgpgflnihjpiagGreat

/- Rows that a call itself has made, and rows appended to them. -/
namespace Go.Proofs.YtcgpgflnihjpiagGreat
open Go.RowKit

/-- The cells of rows. -/
def enc (l : List (Int × Int)) : List Value := l.flatMap fun r => [.int .i64 r.1, .int .i64 r.2]

theorem enc_length (l : List (Int × Int)) : (enc l).length = l.length * 2 := by
  induction l with
  | nil => rfl
  | cons r t ih => simp [enc] at ih ⊢; omega
theorem enc_append (a b : List (Int × Int)) : enc (a ++ b) = enc a ++ enc b := by simp [enc]
theorem enc_cons (r : Int × Int) (t : List (Int × Int)) : enc (r :: t) = .int .i64 r.1 :: .int .i64 r.2 :: enc t := by simp [enc]
theorem enc_key (l : List (Int × Int)) (i : Nat) (h : i < l.length) : (enc l)[i * 2]? = some (.int .i64 (l.getD i (0, 0)).1) := by
  induction l generalizing i with
  | nil => simp at h
  | cons r t ih =>
    rw [enc_cons]
    cases i with
    | zero => simp
    | succ i => rw [show (i + 1) * 2 = i * 2 + 1 + 1 by omega, List.getElem?_cons_succ, List.getElem?_cons_succ, ih i (by simpa using h)]; simp
theorem enc_val (l : List (Int × Int)) (i : Nat) (h : i < l.length) : (enc l)[i * 2 + 1]? = some (.int .i64 (l.getD i (0, 0)).2) := by
  induction l generalizing i with
  | nil => simp at h
  | cons r t ih =>
    rw [enc_cons]
    cases i with
    | zero => simp
    | succ i => rw [show (i + 1) * 2 + 1 = i * 2 + 1 + 1 + 1 by omega, List.getElem?_cons_succ, List.getElem?_cons_succ, ih i (by simpa using h)]; simp
theorem enc_one (l : List (Int × Int)) : ∀ u ∈ enc l, u.oneCell' = true := by
  intro u hu
  simp only [enc, List.mem_flatMap] at hu
  obtain ⟨r, _, h⟩ := hu
  simp at h
  rcases h with rfl | rfl <;> rfl

theorem Rd.enc {w : World} {b off n : Nat} {l : List (Int × Int)} (hl : l.length = n)
    (hc : ∀ i, i < n → w.cell? ⟨b, off + i * 2, none⟩ = some (.int .i64 (l.getD i (0, 0)).1) ∧ w.cell? ⟨b, off + i * 2 + 1, none⟩ = some (.int .i64 (l.getD i (0, 0)).2)) :
    ∀ j u, (enc l)[j]? = some u → w.cell? ((⟨b, off, none⟩ : Addr).add j) = some u := by
  intro j u hj
  have hjl : j < (YtcgpgflnihjpiagGreat.enc l).length := (List.getElem?_eq_some_iff.1 hj).1
  rw [enc_length] at hjl
  have hi : j / 2 < l.length := by omega
  rcases Nat.mod_two_eq_zero_or_one j with h0 | h1
  · obtain ⟨i, rfl⟩ : ∃ i, j = i * 2 := ⟨j / 2, by omega⟩
    rw [enc_key l i (by omega)] at hj
    rw [← hj, Addr.add_lit]; exact (hc i (by omega)).1
  · obtain ⟨i, rfl⟩ : ∃ i, j = i * 2 + 1 := ⟨j / 2, by omega⟩
    rw [enc_val l i (by omega)] at hj
    rw [← hj, Addr.add_lit, ← Nat.add_assoc]
    exact (hc i (by omega)).2

/-- The rows l lie in a row of the call's own. -/
def Own (w : World) (base : Nat) (v : Value) (l : List (Int × Int)) : Prop := w.ownsRow base 56 2 v l.length (enc l)

theorem Own.rd {w : World} {base : Nat} {v : Value} {l : List (Int × Int)} (h : Own w base v l) : ∃ a cap, v = .slice a l.length cap ∧ Rd w a l.length l ∧ l.length ≤ cap ∧ cap ≤ maxLen ∧ (a = none → l.length = 0 ∧ cap = 0) := by
  have h0 := h
  obtain ⟨h1, h2⟩ := h
  rcases h2 with ⟨rfl, hn⟩ | ⟨g, cap, cur, rfl, hb, hh, hc, hm, hs, hx⟩
  · exact ⟨none, 0, by rw [hn], ⟨rfl, Or.inl hn⟩, by omega, by simp [maxLen], fun _ => ⟨hn, rfl⟩⟩
  · refine ⟨_, cap, rfl, ⟨rfl, ?_⟩, hc, hm, fun h => by simp at h⟩
    have hlt : g < w.heap.size := (Array.getElem?_eq_some_iff.1 hh).1
    refine Or.inr ⟨g, 0, rfl, hlt, fun i hi => ⟨?_, ?_⟩⟩
    · rw [World.ownsRow.cellAt h0 (0 + i * 2) (by omega), Nat.zero_add, enc_key l i hi]
    · rw [World.ownsRow.cellAt h0 (0 + i * 2 + 1) (by omega), Nat.zero_add, enc_val l i hi]

theorem infoRow : (Tryz.prog.info? 56).map (fun i => (i.zero, i.size, i.bytes)) = some (some (.agg #[.int .i64 0, .int .i64 0]), 2, 16) := by kernel_rfl

/-- Rows appended to rows of the call's own. -/
theorem append_rd {w : World} {ops : Array Oper} {rest : List Oper} {o : Oper} {a : Act} {Q : Exit → Act → World → Prop} (hgd : o.guard = none) (s x : Operand)
    (ho : o.op = .call { callee := .builtin .append, args := #[s, x], argTypes := #[47, 47] })
    (base : Nat) (v : Value) (l : List (Int × Int)) (hs : a.eval s = v) (hown : Own w base v l)
    (ao : Option Addr) (m c : Nat) (l2 : List (Int × Int)) (hx : a.eval x = .slice ao m c) (hr : Rd w ao m l2) (hnil : ao = none → m = 0 ∧ c = 0)
    (hbig : l.length + m ≤ 1000000) (hbase : base ≤ w.heap.size)
    (h : ∀ v' w', Own w' base v' (l ++ l2) → Below base w w' → wpList Tryz.prog ops Q rest (a.put o.dst v') w') : wpList Tryz.prog ops Q (o :: rest) a w := by
  obtain ⟨i0, hi, hz0, hz1, hz2⟩ := info_parts infoRow
  cases ao with
  | none =>
    obtain ⟨rfl, rfl⟩ := hnil rfl
    have e2 : l2 = [] := List.eq_nil_of_length_eq_zero hr.1
    subst e2
    refine wpList_append_own_none hgd s x 47 ho base 56 i0 2 Tryz.underlying47 hi v l.length (enc l) hs hown hx ?_
    exact h v w (by simpa using hown) (Below.refl _ _)
  | some ad =>
    have hm2 : (enc l2).length = m * 2 := by rw [enc_length, hr.1]
    have hnews : ∀ j u, (enc l2)[j]? = some u → w.cell? (ad.add j) = some u := by
      rcases hr.cases with ⟨rfl, rfl⟩ | ⟨b, off, hab, hn, hl, hB, hc⟩
      · intro j u hj; simp [YtcgpgflnihjpiagGreat.enc] at hj
      · obtain rfl : ad = ⟨b, off, none⟩ := by simpa using hab
        exact Rd.enc hl hc
    refine wpList_append_own _ hgd s x 47 ho base 56 i0 (.agg #[.int .i64 0, .int .i64 0]) 2 16 Tryz.underlying47 hi hz0 hz1 hz2 rfl (by decide) v l.length (enc l) hs hown ad m c (enc l2) hx hm2 hnews (enc_one l2)
      (by simp only [maxLen]; omega) (by omega) hbase ?_
    intro v' w' h1 h2 _
    refine h v' w' ?_ ((Below.refl _ _).grown h2 hbase fun k hk => (World.ownsRow.lt hown k hk).1)
    unfold Own
    rw [enc_append, List.length_append, hr.1]
    exact h1

theorem Rd.zero {w : World} {a : Option Addr} {n : Nat} {l : List (Int × Int)} (h : n = 0) (hl : l.length = n) : Rd w a n l := ⟨hl, Or.inl h⟩
theorem Rd.take {w : World} {a : Option Addr} {n : Nat} {l : List (Int × Int)} (h : Rd w a n l) (k : Nat) (hk : k ≤ n) : Rd w a k (l.take k) := by
  obtain ⟨h1, h2⟩ := h
  refine ⟨by rw [List.length_take]; omega, ?_⟩
  rcases h2 with h2 | ⟨b, off, ha, hlt, hc⟩
  · exact Or.inl (by omega)
  · refine Or.inr ⟨b, off, ha, hlt, fun i hi => ?_⟩
    have e : (l.take k).getD i (0, 0) = l.getD i (0, 0) := by simp [List.getD, hi]
    rw [e]; exact hc i (by omega)
theorem Rd.drop {w : World} {b off n : Nat} {l : List (Int × Int)} (h : Rd w (some ⟨b, off, none⟩) n l) (k : Nat) : Rd w (some ⟨b, off + k * 2, none⟩) (n - k) (l.drop k) := by
  obtain ⟨h1, h2⟩ := h
  refine ⟨by rw [List.length_drop]; omega, ?_⟩
  by_cases hk : n ≤ k
  · exact Or.inl (by omega)
  · rcases h2 with h2 | ⟨b', off', ha, hlt, hc⟩
    · exact Or.inl (by omega)
    · obtain ⟨rfl, rfl⟩ : b = b' ∧ off = off' := by simpa using ha
      refine Or.inr ⟨b, off + k * 2, rfl, hlt, fun i hi => ?_⟩
      have e : (l.drop k).getD i (0, 0) = l.getD (k + i) (0, 0) := by simp [List.getD]
      have := hc (k + i) (by omega)
      rw [e, show off + k * 2 + i * 2 = off + (k + i) * 2 by omega]
      exact this

theorem drewN_below (w : World) (m : Nat) : Below w.heap.size w (w.drewN m) := below_drewN (Below.refl _ _) m

theorem one_rd (w : World) (key val : Int) : Rd (w.alloc (.cells #[.int .i64 key, .int .i64 val] 56)) (some ⟨w.heap.size, 0, none⟩) 1 [(key, val)] := by
  refine ⟨rfl, Or.inr ⟨w.heap.size, 0, rfl, by simp, fun i hi => ?_⟩⟩
  obtain rfl : i = 0 := by omega
  constructor <;> simp [go_sem]

theorem flat_take (LL : List (List (Int × Int))) (i : Nat) (h : i < LL.length) : (LL.take (i + 1)).flatten = (LL.take i).flatten ++ LL.getD i [] := by
  rw [List.take_succ_eq_append_getElem h, List.flatten_append]
  simp [List.getD, h]
theorem flat_le (LL : List (List (Int × Int))) (i : Nat) : (LL.take i).flatten.length ≤ LL.flatten.length := by
  have h := congrArg (fun x => x.flatten.length) (List.take_append_drop i LL)
  simp only [List.flatten_append, List.length_append] at h
  omega

end Go.Proofs.YtcgpgflnihjpiagGreat

/- slices.Grow at nil; slices.Concat. -/
namespace Go.Proofs.YtcgpgflnihjpiagGreat
open Go.RowKit

set_option maxHeartbeats 1000000 in
theorem grow_some (n : Nat) (w : World) (h0 : 0 < n) (hn : n ≤ 1000000) :
    Calls Tryz.prog 165 #[.slice none 0 0, .int .i64 n] w fun e w' => ∃ v, e = .returned v ∧ Own w' w.heap.size v [] ∧ Below w.heap.size w w' := by
  obtain ⟨i0, hi, hz0, hz1, hz2⟩ := info_parts infoRow
  have hrz := fun ty => Lib.run_append_nil_zeros (P := Tryz.prog) w 47 3 ty 56 i0 _ .i64 .i64 Tryz.underlying47 Tryz.underlying3 hi hz0 n h0 (by omega) (by omega) (by rw [hz2]; omega)
  have hGn : n ≤ grownCap w n 0 56 := grownCap_ge w _ _ _
  obtain ⟨G, hG⟩ : ∃ G, G = grownCap w n 0 56 := ⟨_, rfl⟩
  have hG63 : G ≤ maxLen := by rw [hG]; exact grownCap_le_maxLen w n 0 56 (by unfold maxLen; omega)
  rw [← hG] at hrz hGn
  obtain ⟨C, hC⟩ : ∃ C, C = Builtin.zeroCells (Value.agg #[.int .i64 0, .int .i64 0]).cells n ++ Builtin.zeroCells (Value.agg #[.int .i64 0, .int .i64 0]).cells (G - n) := ⟨_, rfl⟩
  rw [← hC] at hrz
  have hCs : C.size = G * 2 := by rw [hC]; simp [Builtin.zeroCells, Value.cells]; omega
  have hown := World.ownsRow_made (base := w.heap.size) (e := 56) (size := 2) w.drew C G (Nat.le_refl _) hG63 hCs
  unfold maxLen at hG63
  have HO : Hid ((w.drew.alloc (.cells C 56)).ownsRow w.heap.size 56 2 (.slice (some ⟨w.heap.size, 0, none⟩) 0 G) 0 []) := hown
  have HR : Hid (∀ ty, (Builtin.append_ #[47, 3] ty #[.slice none 0 0, .int .i64 n]).run Tryz.prog w = .ok (.slice (some ⟨w.heap.size, 0, none⟩) n G) (w.drew.alloc (.cells C 56))) := hrz
  clear hC hG hrz hCs hown hi hz0 hz1 hz2
  go_enter Tryz.func165, Tryz.ntmps165
  go_wp2_with (at_builtin; refine Lib.wpList_append_run _ rfl _ _ _ _ rfl _ _ rfl rfl _ _ (HR.out _) ?_)
  go_ret
  exact ⟨_, rfl, HO.out, (Below.refl _ _).drew.alloc (Nat.le_refl _) _⟩

theorem grow_none (w : World) :
    Calls Tryz.prog 165 #[.slice none 0 0, .int .i64 0] w fun e w' => ∃ v, e = .returned v ∧ Own w' w.heap.size v [] ∧ Below w.heap.size w w' := by
  go_enter Tryz.func165, Tryz.ntmps165
  go_wp2
  go_ret
  exact ⟨_, rfl, World.ownsRow_nil _ _ _ _, Below.refl _ _⟩

theorem grow_any (n : Nat) (w : World) (hn : n ≤ 1000000) :
    Calls Tryz.prog 165 #[.slice none 0 0, .int .i64 n] w fun e w' => ∃ v, e = .returned v ∧ Own w' w.heap.size v [] ∧ Below w.heap.size w w' := by
  by_cases h : n = 0
  · subst h; exact grow_none w
  · exact grow_some n w (by omega) hn

/-- Several slices of rows, side by side in memory. -/
def Rds (w : World) (b off k : Nat) (A : Nat → Option Addr) (C : Nat → Nat) (LL : List (List (Int × Int))) : Prop :=
  LL.length = k ∧ b < w.heap.size ∧ ∀ i, i < k → w.cell? ⟨b, off + i, none⟩ = some (.slice (A i) (LL.getD i []).length (C i)) ∧ Rd w (A i) (LL.getD i []).length (LL.getD i []) ∧ (A i = none → (LL.getD i []).length = 0 ∧ C i = 0)

theorem Rds.below {w w' : World} {b off k : Nat} {A : Nat → Option Addr} {C : Nat → Nat} {LL : List (List (Int × Int))} (h : Rds w b off k A C LL) {B : Nat} (hb : Below B w w') (hB : w.heap.size ≤ B) : Rds w' b off k A C LL := by
  obtain ⟨h1, h2, h3⟩ := h
  refine ⟨h1, Nat.lt_of_lt_of_le h2 hb.size, fun i hi => ⟨?_, (h3 i hi).2.1.below hb hB, (h3 i hi).2.2⟩⟩
  rw [hb.cell (p := ⟨b, off + i, none⟩) (by show b < B; omega)]
  exact (h3 i hi).1

set_option maxHeartbeats 2000000 in
theorem concat_any (b off k cap : Nat) (A : Nat → Option Addr) (C : Nat → Nat) (LL : List (List (Int × Int))) (w : World) (hk : k ≤ 1000) (hR : Rds w b off k A C LL) (hbig : LL.flatten.length ≤ 1000000) :
    Calls Tryz.prog 153 #[.slice (some ⟨b, off, none⟩) k cap] w fun e w' => ∃ v, e = .returned v ∧ Own w' w.heap.size v LL.flatten ∧ Below w.heap.size w w' := by
  have HR : Aside (Rds w b off k A C LL) := hR
  clear hR
  have HBig : Aside (LL.flatten.length ≤ 1000000) := hbig
  clear hbig
  go_enter Tryz.func153, Tryz.ntmps153
  go_wp2
  go_loopg [3, 11] k (fun g s i wr => ∃ j q : Nat, j + g = k ∧ i = .int .i64 j ∧ s = .int .i64 q ∧ w = wr ∧ Aside (q = (LL.take j).flatten.length))
  case atStart => exact ⟨0, 0, by omega, rfl, rfl, rfl, rfl⟩
  case round =>
    obtain ⟨j, q, hj, rfl, rfl, rfl, HQ⟩ := hrel
    by_cases hlt : j < k
    · have c := (HR.out.2.2 j hlt).1
      obtain ⟨m, hm⟩ : ∃ m, m = (LL.getD j []).length := ⟨_, rfl⟩
      rw [← hm] at c
      have e1 : q + m = (LL.take (j + 1)).flatten.length := by rw [flat_take LL j (by rw [HR.out.1]; exact hlt), List.length_append, HQ.out, hm]
      have e2 : q + m ≤ 1000000 := by rw [e1]; exact Nat.le_trans (flat_le LL (j + 1)) HBig.out
      have E1 : Aside (q + m = (LL.take (j + 1)).flatten.length) := e1
      clear e1 hm
      go_wp2
      go_roundg (gk - 1)
      case measure => omega
      case rel => exact ⟨j + 1, q + m, by omega, by go_num, by go_num, rfl, E1⟩
    · obtain rfl : j = k := by omega
      have e2 : q ≤ 1000000 := by rw [HQ.out]; exact Nat.le_trans (flat_le LL j) HBig.out
      go_wp2_with fail
      refine (grow_any q _ e2).mono ?_
      rintro e w1 ⟨v, rfl, hown, hb1⟩
      have HO : Aside (Own w1 w.heap.size v []) := hown
      clear hown
      go_wp2_with fail
      go_loopg [6, 27] j (fun g s i ws => ∃ t : Nat, t + g = j ∧ i = .int .i64 t ∧ Aside (Own ws w.heap.size s (LL.take t).flatten) ∧ Below w.heap.size w ws)
      case atStart => exact ⟨0, by omega, rfl, HO, hb1⟩
      case round =>
        obtain ⟨t, ht, rfl, HT, hb2⟩ := hrel
        by_cases hlt2 : t < j
        · have R2 := HR.out.below hb2 (Nat.le_refl _)
          obtain ⟨c, r2, hnil⟩ := R2.2.2 t hlt2
          obtain ⟨l2, hl2⟩ : ∃ l2, l2 = LL.getD t [] := ⟨_, rfl⟩
          rw [← hl2] at c r2 hnil
          obtain ⟨m, hm⟩ : ∃ m, m = l2.length := ⟨_, rfl⟩
          rw [← hm] at c r2 hnil
          have e1 : (LL.take (t + 1)).flatten = (LL.take t).flatten ++ l2 := by rw [flat_take LL t (by rw [HR.out.1]; exact hlt2), hl2]
          have e3 : (LL.take t).flatten.length + m ≤ 1000000 := by
            have h3 := flat_le LL (t + 1)
            rw [e1, List.length_append, ← hm] at h3
            exact Nat.le_trans h3 HBig.out
          have E1 : Aside ((LL.take (t + 1)).flatten = (LL.take t).flatten ++ l2) := e1
          have E3 : Aside ((LL.take t).flatten.length + m ≤ 1000000) := e3
          have HR2 : Aside (Rd wr (A t) m l2) := r2
          have HN : Aside (A t = none → m = 0 ∧ C t = 0) := hnil
          clear e1 e3 hm hl2 R2 r2 hnil
          go_wp2_with (at_builtin; refine append_rd rfl _ _ rfl w.heap.size _ (LL.take t).flatten rfl HT.out (A t) m (C t) l2 rfl HR2.out HN.out E3.out hb2.size ?_)
          intro v' w' ho' hb3
          have HO' : Aside (Own w' w.heap.size v' ((LL.take t).flatten ++ l2)) := ho'
          have hb4 := hb2.trans hb3
          clear ho' hb3
          go_wp2
          go_roundg (gk - 1)
          case measure => omega
          case rel => exact ⟨t + 1, by omega, by go_num, by unfold Aside; rw [E1.out]; exact HO'.out, hb4⟩
        · obtain rfl : t = j := by omega
          have e1 : (LL.take t).flatten = LL.flatten := by rw [List.take_of_length_le (by rw [HR.out.1]; omega)]
          have E1 : Aside ((LL.take t).flatten = LL.flatten) := e1
          clear e1
          go_wp2
          go_ret
          exact ⟨_, rfl, by have h5 := HT.out; rw [E1.out] at h5; exact h5, hb2⟩
end Go.Proofs.YtcgpgflnihjpiagGreat

/- Plain facts on rows in which a key is put. -/
namespace Go.Proofs.YtcgpgflnihjpiagGreat.M

/-- The rows in which a key has a value, or, of -1, is not there. -/
def own (key val : Int) : List (Int × Int) := if val = -1 then [] else [(key, val)]
def lows (key : Int) (l : List (Int × Int)) : List (Int × Int) := l.filter fun r => decide (r.1 < key)
def highs (key : Int) (l : List (Int × Int)) : List (Int × Int) := l.filter fun r => decide (key < r.1)
def put (key val : Int) (l : List (Int × Int)) : List (Int × Int) := lows key l ++ own key val ++ highs key l

theorem mem_take {l : List (Int × Int)} {k : Nat} {r : Int × Int} (h : r ∈ l.take k) : ∃ i, i < k ∧ i < l.length ∧ l.getD i (0, 0) = r := by
  obtain ⟨i, hi, e⟩ := List.mem_iff_getElem.1 h
  rw [List.length_take] at hi
  refine ⟨i, by omega, by omega, ?_⟩
  rw [← e, List.getElem_take]
  simp [List.getD, show i < l.length by omega]
theorem mem_drop {l : List (Int × Int)} {k : Nat} {r : Int × Int} (h : r ∈ l.drop k) : ∃ i, k ≤ i ∧ i < l.length ∧ l.getD i (0, 0) = r := by
  obtain ⟨i, hi, e⟩ := List.mem_iff_getElem.1 h
  rw [List.length_drop] at hi
  refine ⟨k + i, by omega, by omega, ?_⟩
  rw [← e, List.getElem_drop]
  simp [List.getD, show k + i < l.length by omega]

theorem filter_all {p : Int × Int → Bool} (l : List (Int × Int)) (h : ∀ r ∈ l, p r = true) : l.filter p = l := List.filter_eq_self.2 h
theorem filter_no {p : Int × Int → Bool} (l : List (Int × Int)) (h : ∀ r ∈ l, p r = false) : l.filter p = [] := List.filter_eq_nil_iff.2 fun r hr => by rw [h r hr]; decide

theorem At.lows {l : List (Int × Int)} {key : Int} {k : Nat} {t : Bool} (h : At l key k t) (ok : Ok l) : lows key l = l.take k := by
  unfold M.lows
  rw [← List.take_append_drop k l, List.filter_append, filter_all (l.take k), filter_no (l.drop k)]
  · simp [List.take_append_drop]
  · intro r hr
    obtain ⟨i, h1, h2, rfl⟩ := mem_drop hr
    have := h.2.2.1 (by omega)
    have := ok.mono k i h1 h2
    exact decide_eq_false (by omega)
  · intro r hr
    obtain ⟨i, h1, h2, rfl⟩ := mem_take hr
    simpa using h.2.1 i h1

theorem At.highs_no {l : List (Int × Int)} {key : Int} {k : Nat} (h : At l key k false) (ok : Ok l) : highs key l = l.drop k := by
  unfold M.highs
  rw [← List.take_append_drop k l, List.filter_append, filter_no (l.take k), filter_all (l.drop k)]
  · simp [List.take_append_drop]
  · intro r hr
    obtain ⟨i, h1, h2, rfl⟩ := mem_drop hr
    have h3 := h.2.2.1 (by omega)
    have h4 := ok.mono k i h1 h2
    have h5 : (l.getD k (0, 0)).1 ≠ key := fun e => by have := h.2.2.2.2 ⟨by omega, e⟩; simp at this
    exact decide_eq_true (by omega)
  · intro r hr
    obtain ⟨i, h1, h2, rfl⟩ := mem_take hr
    have := h.2.1 i h1
    exact decide_eq_false (by omega)

theorem At.highs_yes {l : List (Int × Int)} {key : Int} {k : Nat} (h : At l key k true) (ok : Ok l) : highs key l = l.drop (k + 1) := by
  unfold M.highs
  rw [← List.take_append_drop (k + 1) l, List.filter_append, filter_no (l.take (k + 1)), filter_all (l.drop (k + 1))]
  · simp [List.take_append_drop]
  · intro r hr
    obtain ⟨i, h1, h2, rfl⟩ := mem_drop hr
    have h3 := h.yes
    have h4 := ok.asc k i h1 h2
    exact decide_eq_true (by omega)
  · intro r hr
    obtain ⟨i, h1, h2, rfl⟩ := mem_take hr
    have h3 := h.yes
    have h4 := ok.mono i k (by omega) h3.1
    exact decide_eq_false (by omega)

/-- The error of Put. -/
def putE (l : List (Int × Int)) (key val : Int) : Int := if asked l key ≠ 0 then asked l key else if val < -1 ∨ 996 < val then 3 else if 40 < (put key val l).length then 2 else 0
def putV (l : List (Int × Int)) (key val : Int) : List (Int × Int) := if putE l key val = 0 then put key val l else []
theorem putE_bad {l : List (Int × Int)} {key val : Int} (h : asked l key ≠ 0) : putE l key val = asked l key := by unfold putE; rw [if_pos h]
theorem putE_range {l : List (Int × Int)} {key val : Int} (h : asked l key = 0) (hv : val < -1 ∨ 996 < val) : putE l key val = 3 := by unfold putE; rw [if_neg (by omega), if_pos hv]
theorem putE_many {l : List (Int × Int)} {key val : Int} (h : asked l key = 0) (h1 : -1 ≤ val) (h2 : val ≤ 996) (h3 : 40 < (put key val l).length) : putE l key val = 2 := by unfold putE; rw [if_neg (by omega), if_neg (by omega), if_pos h3]
theorem putE_ok {l : List (Int × Int)} {key val : Int} (h : asked l key = 0) (h1 : -1 ≤ val) (h2 : val ≤ 996) (h3 : (put key val l).length ≤ 40) : putE l key val = 0 := by unfold putE; rw [if_neg (by omega), if_neg (by omega), if_neg (by omega)]
theorem putE_zero {l : List (Int × Int)} {key val : Int} (h : putE l key val = 0) : asked l key = 0 ∧ -1 ≤ val ∧ val ≤ 996 ∧ (put key val l).length ≤ 40 := by
  unfold putE at h
  split at h
  · omega
  · split at h
    · omega
    · split at h
      · omega
      · omega
theorem putV_no {l : List (Int × Int)} {key val : Int} (h : putE l key val ≠ 0) : putV l key val = [] := by unfold putV; rw [if_neg h]
theorem putV_ok {l : List (Int × Int)} {key val : Int} (h : putE l key val = 0) : putV l key val = put key val l := by unfold putV; rw [if_pos h]

end Go.Proofs.YtcgpgflnihjpiagGreat.M
