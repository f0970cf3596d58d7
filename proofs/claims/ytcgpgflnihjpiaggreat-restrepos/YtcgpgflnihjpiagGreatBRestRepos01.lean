/- Plain facts on rows (lists of two integers), with no program in sight. -/
import Derived.KernelRfl
import Derived.PlainAid
import Derived.Lib.DecodeN
import Derived.Laws.RangeString
import Derived.Test.YtcgpgflnihjpiagGreatChecked
import Derived.WalkKit
import Derived.WalkSpells
import Derived.WalkLawsBesides
import Derived.Deep.LoopGhost
import Derived.Deep.QuietTactic
import Derived.BigQuiet
import Derived.Laws.AppendOwnNone
import Derived.Deep.RegionHeld
namespace Go.Proofs.YtcgpgflnihjpiagGreat.M

/-- A row that may not stand behind a key. -/
def bad (ah : Int) (r : Int × Int) : Bool := decide (r.1 ≤ ah ∨ 99 < r.1 ∨ r.2 < 0 ∨ 996 < r.2)
/-- The error of rows behind a key. -/
def chkFrom (ah : Int) : List (Int × Int) → Int
  | [] => 0
  | r :: t => if bad ah r = true then 1 else chkFrom r.1 t
/-- The error of rows. -/
def chk (l : List (Int × Int)) : Int := if 40 < l.length then 2 else chkFrom (-1) l

/-- The key ahead of the k-th row. -/
def prev (l : List (Int × Int)) : Nat → Int
  | 0 => -1
  | k + 1 => (l.getD k (0, 0)).1

theorem chk_many (l : List (Int × Int)) (h : 40 < l.length) : chk l = 2 := by unfold chk; rw [if_pos h]
theorem chk_few (l : List (Int × Int)) (h : l.length ≤ 40) : chk l = chkFrom (-1) l := by unfold chk; rw [if_neg (by omega)]

theorem drop_at (l : List (Int × Int)) (k : Nat) (h : k < l.length) : l.drop k = l.getD k (0, 0) :: l.drop (k + 1) := by
  rw [List.drop_eq_getElem_cons h]; simp [List.getD, h]

theorem chkFrom_bad (ah : Int) (l : List (Int × Int)) (k : Nat) (h : k < l.length) (x y : Int) (e : l.getD k (0, 0) = (x, y)) (hb : x ≤ ah ∨ 99 < x ∨ y < 0 ∨ 996 < y) : chkFrom ah (l.drop k) = 1 := by
  rw [drop_at l k h, e, chkFrom, if_pos (by simp [bad]; exact hb)]
theorem chkFrom_good (ah : Int) (l : List (Int × Int)) (k : Nat) (h : k < l.length) (x y : Int) (e : l.getD k (0, 0) = (x, y)) (h1 : ah < x) (h2 : x ≤ 99) (h3 : 0 ≤ y) (h4 : y ≤ 996) : chkFrom ah (l.drop k) = chkFrom x (l.drop (k + 1)) := by
  rw [drop_at l k h, e, chkFrom, if_neg (by simp [bad]; omega)]
theorem chkFrom_end (ah : Int) (l : List (Int × Int)) (k : Nat) (h : l.length ≤ k) : chkFrom ah (l.drop k) = 0 := by
  rw [List.drop_eq_nil_of_le h]; rfl

/-- Right rows, but for how many they are. -/
def Ok (l : List (Int × Int)) : Prop := (∀ r ∈ l, 0 ≤ r.1 ∧ r.1 ≤ 99 ∧ 0 ≤ r.2 ∧ r.2 ≤ 996) ∧ l.Pairwise (fun a b => a.1 < b.1)

theorem chkFrom_zero (ah : Int) (l : List (Int × Int)) : chkFrom ah l = 0 ↔ (∀ r ∈ l, ah < r.1 ∧ r.1 ≤ 99 ∧ 0 ≤ r.2 ∧ r.2 ≤ 996) ∧ l.Pairwise (fun a b => a.1 < b.1) := by
  induction l generalizing ah with
  | nil => simp [chkFrom]
  | cons r t ih =>
    rw [chkFrom]
    by_cases hb : bad ah r = true
    · rw [if_pos hb]
      constructor
      · intro h; omega
      · rintro ⟨h, _⟩
        have := h r (by simp)
        simp [bad] at hb
        omega
    · rw [if_neg hb, ih]
      have hg : ah < r.1 ∧ r.1 ≤ 99 ∧ 0 ≤ r.2 ∧ r.2 ≤ 996 := by simp [bad] at hb; omega
      constructor
      · rintro ⟨h1, h2⟩
        refine ⟨fun q hq => ?_, List.pairwise_cons.2 ⟨fun q hq => (h1 q hq).1, h2⟩⟩
        rcases List.mem_cons.1 hq with rfl | hq
        · exact hg
        · have := h1 q hq; omega
      · rintro ⟨h1, h2⟩
        have h3 := List.pairwise_cons.1 h2
        exact ⟨fun q hq => ⟨h3.1 q hq, (h1 q (by simp [hq])).2⟩, h3.2⟩

theorem chk_zero (l : List (Int × Int)) : chk l = 0 ↔ l.length ≤ 40 ∧ Ok l := by
  unfold chk
  by_cases h : 40 < l.length
  · rw [if_pos h]; constructor
    · intro h; omega
    · rintro ⟨h, _⟩; omega
  · rw [if_neg h, chkFrom_zero]
    constructor
    · rintro ⟨h1, h2⟩; exact ⟨by omega, fun r hr => by have := h1 r hr; omega, h2⟩
    · rintro ⟨_, h1, h2⟩; exact ⟨fun r hr => by have := h1 r hr; omega, h2⟩

theorem chkFrom_range (ah : Int) (l : List (Int × Int)) : chkFrom ah l = 0 ∨ chkFrom ah l = 1 := by
  induction l generalizing ah with
  | nil => simp [chkFrom]
  | cons r t ih => rw [chkFrom]; split <;> simp [ih]

theorem getD_mem (l : List (Int × Int)) (i : Nat) (h : i < l.length) : l.getD i (0, 0) ∈ l := by
  simp [List.getD, h]

theorem Ok.asc {l : List (Int × Int)} (h : Ok l) (i j : Nat) (hij : i < j) (hj : j < l.length) : (l.getD i (0, 0)).1 < (l.getD j (0, 0)).1 := by
  have := List.pairwise_iff_getElem.1 h.2 i j (by omega) hj hij
  simpa [List.getD, hj, Nat.lt_trans hij hj] using this

theorem Ok.mono {l : List (Int × Int)} (h : Ok l) (i j : Nat) (hij : i ≤ j) (hj : j < l.length) : (l.getD i (0, 0)).1 ≤ (l.getD j (0, 0)).1 := by
  by_cases e : i = j
  · rw [e]; omega
  · have := h.asc i j (by omega) hj; omega

theorem Ok.tail {r : Int × Int} {t : List (Int × Int)} (h : Ok (r :: t)) : Ok t := ⟨fun q hq => h.1 q (by simp [hq]), (List.pairwise_cons.1 h.2).2⟩
theorem Ok.head {r : Int × Int} {t : List (Int × Int)} (h : Ok (r :: t)) : ∀ q ∈ t, r.1 < q.1 := (List.pairwise_cons.1 h.2).1

/-- The value of a key. -/
def find (key : Int) : List (Int × Int) → Int
  | [] => -1
  | r :: t => if r.1 = key then r.2 else find key t

theorem find_none (key : Int) (l : List (Int × Int)) (h : ∀ r ∈ l, r.1 ≠ key) : find key l = -1 := by
  induction l with
  | nil => rfl
  | cons r t ih => rw [find, if_neg (h r (by simp)), ih fun q hq => h q (by simp [hq])]

theorem find_mem (key : Int) (l : List (Int × Int)) (hk : l.Pairwise (fun a b => a.1 < b.1)) (r : Int × Int) (hr : r ∈ l) (e : r.1 = key) : find key l = r.2 := by
  induction l with
  | nil => simp at hr
  | cons q t ih =>
    rw [find]
    have h2 := List.pairwise_cons.1 hk
    rcases List.mem_cons.1 hr with rfl | hr
    · rw [if_pos e]
    · rw [if_neg (by have := h2.1 r hr; omega), ih h2.2 hr]

/-- What a search for a key has found. -/
def At (l : List (Int × Int)) (key : Int) (k : Nat) (t : Bool) : Prop :=
  k ≤ l.length ∧ (∀ i, i < k → (l.getD i (0, 0)).1 < key) ∧ (k < l.length → key ≤ (l.getD k (0, 0)).1) ∧ (t = true ↔ k < l.length ∧ (l.getD k (0, 0)).1 = key)

theorem At.yes {l : List (Int × Int)} {key : Int} {k : Nat} (h : At l key k true) : k < l.length ∧ (l.getD k (0, 0)).1 = key := h.2.2.2.1 rfl

theorem At.find_yes {l : List (Int × Int)} {key : Int} {k : Nat} (h : At l key k true) (ok : Ok l) : find key l = (l.getD k (0, 0)).2 :=
  find_mem key l ok.2 _ (getD_mem l k h.yes.1) h.yes.2

theorem mem_getD {l : List (Int × Int)} {r : Int × Int} (h : r ∈ l) : ∃ i, i < l.length ∧ l.getD i (0, 0) = r := by
  obtain ⟨i, hi, e⟩ := List.mem_iff_getElem.1 h
  exact ⟨i, hi, by simp [List.getD, hi, e]⟩

theorem At.find_no {l : List (Int × Int)} {key : Int} {k : Nat} (h : At l key k false) (ok : Ok l) : find key l = -1 := by
  refine find_none key l fun r hr e => ?_
  obtain ⟨i, hi, rfl⟩ := mem_getD hr
  by_cases hik : i < k
  · have := h.2.1 i hik; omega
  · have h3 := h.2.2.1 (by omega)
    have h4 := ok.mono k i (by omega) hi
    have h5 : (l.getD k (0, 0)).1 = key := by omega
    have := h.2.2.2.2 ⟨by omega, h5⟩
    simp at this

/-- The error that Find and Put share. -/
def asked (l : List (Int × Int)) (key : Int) : Int := if chk l ≠ 0 then chk l else if key < 0 ∨ 99 < key then 3 else 0
def findV (l : List (Int × Int)) (key : Int) : Int := if asked l key = 0 then find key l else 0
theorem asked_bad {l : List (Int × Int)} {key : Int} (h : chk l ≠ 0) : asked l key = chk l := by unfold asked; rw [if_pos h]
theorem asked_range {l : List (Int × Int)} {key : Int} (h : chk l = 0) (hk : key < 0 ∨ 99 < key) : asked l key = 3 := by unfold asked; rw [if_neg (by omega), if_pos hk]
theorem asked_ok {l : List (Int × Int)} {key : Int} (h : chk l = 0) (hk : 0 ≤ key) (hk2 : key ≤ 99) : asked l key = 0 := by unfold asked; rw [if_neg (by omega), if_neg (by omega)]
theorem asked_zero {l : List (Int × Int)} {key : Int} (h : asked l key = 0) : chk l = 0 ∧ 0 ≤ key ∧ key ≤ 99 := by
  unfold asked at h
  split at h
  · omega
  · split at h
    · omega
    · omega
theorem findV_no {l : List (Int × Int)} {key : Int} (h : asked l key ≠ 0) : findV l key = 0 := by unfold findV; rw [if_neg h]
theorem findV_ok {l : List (Int × Int)} {key : Int} (h : asked l key = 0) : findV l key = find key l := by unfold findV; rw [if_pos h]

theorem find_step (key : Int) (l : List (Int × Int)) (k : Nat) (h : k < l.length) (x y : Int) (e : l.getD k (0, 0) = (x, y)) (hx : x ≠ key) : find key (l.drop k) = find key (l.drop (k + 1)) := by
  rw [drop_at l k h, e, find, if_neg hx]
theorem find_here (key : Int) (l : List (Int × Int)) (k : Nat) (h : k < l.length) (x y : Int) (e : l.getD k (0, 0) = (x, y)) (hx : x = key) : find key (l.drop k) = y := by
  rw [drop_at l k h, e, find, if_pos hx]
theorem find_end (key : Int) (l : List (Int × Int)) (k : Nat) (h : l.length ≤ k) : find key (l.drop k) = -1 := by
  rw [List.drop_eq_nil_of_le h]; rfl

end Go.Proofs.YtcgpgflnihjpiagGreat.M

/- Plain facts on commits, with no program in sight. -/
namespace Go.Proofs.YtcgpgflnihjpiagGreat.M

/-- A commit: its rows, its parents. -/
abbrev Com := List (Int × Int) × List Int
/-- Parents that rise behind one, below n. -/
def ris (n : Nat) (ah : Int) : List Int → Bool
  | [] => true
  | p :: t => decide (ah < p ∧ p < (n : Int)) && ris n p t
def pr (n : Nat) (ps : List Int) : Bool := decide (ps.length ≤ 2) && ris n (-1) ps
def dchkF (n : Nat) : List Com → Int
  | [] => 0
  | c :: t => if chk c.1 ≠ 0 then chk c.1 else if pr n c.2 = true then dchkF (n + 1) t else 1
/-- The error of commits. -/
def dchk (L : List Com) : Int := if 14 < L.length then 2 else dchkF 0 L

theorem dchk_many (L : List Com) (h : 14 < L.length) : dchk L = 2 := by unfold dchk; rw [if_pos h]
theorem dchk_few (L : List Com) (h : L.length ≤ 14) : dchk L = dchkF 0 L := by unfold dchk; rw [if_neg (by omega)]

theorem idrop (l : List Int) (k : Nat) (h : k < l.length) : l.drop k = l.getD k 0 :: l.drop (k + 1) := by
  rw [List.drop_eq_getElem_cons h]; simp [List.getD, h]
theorem cdrop (l : List Com) (k : Nat) (h : k < l.length) : l.drop k = l.getD k ([], []) :: l.drop (k + 1) := by
  rw [List.drop_eq_getElem_cons h]; simp [List.getD, h]

theorem ris_bad (n : Nat) (ah : Int) (l : List Int) (k : Nat) (h : k < l.length) (p : Int) (e : l.getD k 0 = p) (hb : p ≤ ah ∨ (n : Int) ≤ p) : ris n ah (l.drop k) = false := by
  rw [idrop l k h, e, ris, decide_eq_false (by omega)]; rfl
theorem ris_good (n : Nat) (ah : Int) (l : List Int) (k : Nat) (h : k < l.length) (p : Int) (e : l.getD k 0 = p) (h1 : ah < p) (h2 : p < (n : Int)) : ris n ah (l.drop k) = ris n p (l.drop (k + 1)) := by
  rw [idrop l k h, e, ris, decide_eq_true ⟨h1, h2⟩]; rfl
theorem ris_end (n : Nat) (ah : Int) (l : List Int) (k : Nat) (h : l.length ≤ k) : ris n ah (l.drop k) = true := by
  rw [List.drop_eq_nil_of_le h]; rfl
theorem ris_mem {n : Nat} {ah : Int} {l : List Int} (h : ris n ah l = true) : ∀ p ∈ l, ah < p ∧ p < (n : Int) := by
  induction l generalizing ah with
  | nil => simp
  | cons q t ih =>
    simp only [ris, Bool.and_eq_true, decide_eq_true_eq] at h
    intro p hp
    rcases List.mem_cons.1 hp with rfl | hp
    · exact h.1
    · have := ih h.2 p hp; omega
theorem pr_long (n : Nat) (l : List Int) (h : 2 < l.length) : pr n l = false := by unfold pr; rw [decide_eq_false (by omega)]; rfl
theorem pr_short (n : Nat) (l : List Int) (h : l.length ≤ 2) : pr n l = ris n (-1) l := by unfold pr; rw [decide_eq_true h]; rfl

theorem dchkF_bad (n : Nat) (L : List Com) (h : n < L.length) (c : Com) (e : L.getD n ([], []) = c) (hb : chk c.1 ≠ 0) : dchkF n (L.drop n) = chk c.1 := by
  rw [cdrop L n h, e, dchkF, if_pos hb]
theorem dchkF_form (n : Nat) (L : List Com) (h : n < L.length) (c : Com) (e : L.getD n ([], []) = c) (h1 : chk c.1 = 0) (hb : pr n c.2 = false) : dchkF n (L.drop n) = 1 := by
  rw [cdrop L n h, e, dchkF, if_neg (by omega), if_neg (by simp [hb])]
theorem dchkF_good (n : Nat) (L : List Com) (h : n < L.length) (c : Com) (e : L.getD n ([], []) = c) (h1 : chk c.1 = 0) (hb : pr n c.2 = true) : dchkF n (L.drop n) = dchkF (n + 1) (L.drop (n + 1)) := by
  rw [cdrop L n h, e, dchkF, if_neg (by omega), if_pos hb]
theorem dchkF_end (n : Nat) (L : List Com) (h : L.length ≤ n) : dchkF n (L.drop n) = 0 := by
  rw [List.drop_eq_nil_of_le h]; rfl

/-- Right commits. -/
def Right (L : List Com) : Prop := ∀ i, i < L.length → chk (L.getD i ([], [])).1 = 0 ∧ (L.getD i ([], [])).2.length ≤ 2 ∧ ∀ p ∈ (L.getD i ([], [])).2, 0 ≤ p ∧ p < (i : Int)

theorem dchkF_right (n : Nat) (L : List Com) (h : dchkF n L = 0) : ∀ i, i < L.length → chk (L.getD i ([], [])).1 = 0 ∧ (L.getD i ([], [])).2.length ≤ 2 ∧ ∀ p ∈ (L.getD i ([], [])).2, 0 ≤ p ∧ p < ((n + i : Nat) : Int) := by
  induction L generalizing n with
  | nil => intro i hi; simp at hi
  | cons c t ih =>
    rw [dchkF] at h
    by_cases h1 : chk c.1 = 0
    · rw [if_neg (by omega)] at h
      by_cases h2 : pr n c.2 = true
      · rw [if_pos h2] at h
        intro i hi
        cases i with
        | zero =>
          have h3 := h2
          unfold pr at h3
          simp only [Bool.and_eq_true, decide_eq_true_eq] at h3
          refine ⟨h1, h3.1, fun p hp => ?_⟩
          have := ris_mem h3.2 p hp
          simp only [Nat.add_zero]
          omega
        | succ i =>
          have := ih (n + 1) h i (by simpa using hi)
          rw [show n + (i + 1) = n + 1 + i by omega]
          simpa [List.getD] using this
      · rw [if_neg h2] at h; omega
    · rw [if_pos h1] at h; omega

theorem dchk_zero {L : List Com} (h : dchk L = 0) : L.length ≤ 14 ∧ Right L := by
  unfold dchk at h
  by_cases h1 : 14 < L.length
  · rw [if_pos h1] at h; omega
  · rw [if_neg h1] at h
    refine ⟨by omega, fun i hi => ?_⟩
    have := dchkF_right 0 L h i hi
    simpa using this

/-- Marks, and some more. -/
def mark (m : List Bool) (ps : List Int) : List Bool := ps.foldl (fun m p => m.set p.toNat true) m
theorem mark_len (m : List Bool) (ps : List Int) : (mark m ps).length = m.length := by
  unfold mark
  induction ps generalizing m with
  | nil => rfl
  | cons p t ih => rw [List.foldl_cons, ih]; simp
theorem mark_nil (m : List Bool) : mark m [] = m := rfl
theorem mark_take (m : List Bool) (ps : List Int) (k : Nat) (h : k < ps.length) : mark m (ps.take (k + 1)) = (mark m (ps.take k)).set (ps.getD k 0).toNat true := by
  unfold mark
  rw [List.take_succ_eq_append_getElem h, List.foldl_append]
  simp [List.getD, h]
theorem set_get_bool (m : List Bool) (i j : Nat) (h : i < m.length) : (m.set i true).getD j false = true ↔ i = j ∨ m.getD j false = true := by
  simp only [List.getD, List.getElem?_set]
  by_cases e : i = j
  · subst e; simp [h]
  · simp [e]
theorem mark_get (m : List Bool) (ps : List Int) (h : ∀ p ∈ ps, p.toNat < m.length) (j : Nat) : (mark m ps).getD j false = true ↔ m.getD j false = true ∨ ∃ p ∈ ps, p.toNat = j := by
  induction ps generalizing m with
  | nil => simp [mark]
  | cons p t ih =>
    have e : mark m (p :: t) = mark (m.set p.toNat true) t := rfl
    rw [e, ih (m.set p.toNat true) (fun q hq => by simpa using h q (by simp [hq])), set_get_bool m _ _ (h p (by simp))]
    constructor
    · rintro ((h1 | h1) | ⟨q, hq, h1⟩)
      · exact Or.inr ⟨p, by simp, h1⟩
      · exact Or.inl h1
      · exact Or.inr ⟨q, by simp [hq], h1⟩
    · rintro (h1 | ⟨q, hq, h1⟩)
      · exact Or.inl (Or.inr h1)
      · rcases List.mem_cons.1 hq with rfl | hq
        · exact Or.inl (Or.inl h1)
        · exact Or.inr ⟨q, hq, h1⟩

/-- Going down from the k-th. -/
def aboveF (L : List Com) : Nat → List Bool → List Bool
  | 0, m => m
  | k + 1, m => aboveF L k (if m.getD k false = true then mark m (L.getD k ([], [])).2 else m)
def above (L : List Com) (n : Nat) : List Bool := aboveF L (n + 1) ((List.replicate L.length false).set n true)
theorem aboveF_len (L : List Com) (k : Nat) (m : List Bool) : (aboveF L k m).length = m.length := by
  induction k generalizing m with
  | zero => rfl
  | succ k ih => rw [aboveF, ih]; split <;> simp [mark_len]
theorem above_len (L : List Com) (n : Nat) : (above L n).length = L.length := by unfold above; rw [aboveF_len]; simp

/-- k is n, or a parent of one that is above n. -/
inductive Anc (L : List Com) (n : Nat) : Nat → Prop
  | self : Anc L n n
  | up {j k : Nat} {p : Int} : Anc L n j → p ∈ (L.getD j ([], [])).2 → p.toNat = k → Anc L n k

theorem Anc.trans {L : List Com} {a b c : Nat} (h : Anc L a b) (k : Anc L b c) : Anc L a c := by
  induction k with
  | self => exact h
  | up _ h2 h3 ih => exact .up ih h2 h3
theorem Right.par {L : List Com} (R : Right L) {j : Nat} {p : Int} (hp : p ∈ (L.getD j ([], [])).2) : p.toNat < j ∧ j < L.length := by
  by_cases hj : j < L.length
  · have := (R j hj).2.2 p hp; omega
  · rw [show L.getD j ([], []) = ([], []) by simp [List.getD, hj]] at hp
    simp at hp
theorem Anc.le {L : List Com} (R : Right L) {n k : Nat} (h : Anc L n k) : k ≤ n := by
  induction h with
  | self => omega
  | up _ h2 h3 ih => have := R.par h2; omega
/-- Who is above n, and not n, is a parent of one that is above n. -/
theorem Anc.last {L : List Com} {n k : Nat} (h : Anc L n k) (hne : k ≠ n) : ∃ j p, Anc L n j ∧ p ∈ (L.getD j ([], [])).2 ∧ p.toNat = k := by
  cases h with
  | self => exact absurd rfl hne
  | up h1 h2 h3 => exact ⟨_, _, h1, h2, h3⟩

theorem aboveF_iff {L : List Com} (R : Right L) (n : Nat) (k : Nat) (m : List Bool) (hm : m.length = L.length) (hk : k ≤ L.length)
    (h1 : ∀ j, m.getD j false = true → Anc L n j) (h2 : m.getD n false = true)
    (h3 : ∀ j p, k ≤ j → m.getD j false = true → p ∈ (L.getD j ([], [])).2 → m.getD p.toNat false = true) (i : Nat) :
    (aboveF L k m).getD i false = true ↔ Anc L n i := by
  induction k generalizing m with
  | zero =>
    rw [aboveF]
    refine ⟨h1 i, fun h => ?_⟩
    induction h with
    | self => exact h2
    | up _ hp e ih => rw [← e]; exact h3 _ _ (by omega) ih hp
  | succ k ih =>
    rw [aboveF]
    by_cases hb : m.getD k false = true
    · rw [if_pos hb]
      have hps : ∀ p ∈ (L.getD k ([], [])).2, p.toNat < m.length := fun p hp => by have := R.par hp; omega
      have G := mark_get m (L.getD k ([], [])).2 hps
      refine ih (mark m (L.getD k ([], [])).2) (by rw [mark_len]; exact hm) (by omega) (fun j hj => ?_) ((G n).2 (Or.inl h2)) (fun j p hj hmj hp => ?_)
      · rcases (G j).1 hj with h | ⟨p, hp, e⟩
        · exact h1 j h
        · exact .up (h1 k hb) hp e
      · rcases (G j).1 hmj with h | ⟨q, hq, e⟩
        · by_cases ek : j = k
          · subst ek; exact (G _).2 (Or.inr ⟨p, hp, rfl⟩)
          · exact (G _).2 (Or.inl (h3 j p (by omega) h hp))
        · have := R.par hq; omega
    · rw [if_neg hb]
      refine ih m hm (by omega) h1 h2 (fun j p hj hmj hp => ?_)
      by_cases ek : j = k
      · subst ek; exact absurd hmj hb
      · exact h3 j p (by omega) hmj hp

theorem above_iff {L : List Com} (R : Right L) {n : Nat} (hn : n < L.length) (i : Nat) : (above L n).getD i false = true ↔ Anc L n i := by
  have S := set_get_bool (List.replicate L.length false) n
  have Z : ∀ j, (List.replicate L.length false).getD j false = false := fun j => by
    simp only [List.getD, List.getElem?_replicate]; split <;> rfl
  unfold above
  refine aboveF_iff R n (n + 1) _ (by simp) (by omega) (fun j hj => ?_) ((S n (by simpa using hn)).2 (Or.inl rfl)) (fun j p hj hmj _ => ?_) i
  · rcases (S j (by simpa using hn)).1 hj with rfl | h
    · exact .self
    · rw [Z] at h; simp at h
  · rcases (S j (by simpa using hn)).1 hmj with rfl | h
    · omega
    · rw [Z] at h; simp at h

/-- The numbers below k that p chooses. -/
def sel (p : Nat → Bool) : Nat → List Int
  | 0 => []
  | k + 1 => if p k = true then sel p k ++ [(k : Int)] else sel p k
theorem sel_congr (p q : Nat → Bool) (n : Nat) (h : ∀ k, k < n → p k = q k) : sel p n = sel q n := by
  induction n with
  | zero => rfl
  | succ n ih => rw [sel, sel, h n (by omega), ih fun k hk => h k (by omega)]
theorem sel_len (p : Nat → Bool) (n : Nat) : (sel p n).length ≤ n := by
  induction n with
  | zero => simp [sel]
  | succ n ih => rw [sel]; split
                 · simp; omega
                 · omega
theorem mem_sel (p : Nat → Bool) (n : Nat) (x : Int) : x ∈ sel p n ↔ ∃ k : Nat, k < n ∧ p k = true ∧ x = k := by
  induction n with
  | zero => simp [sel]
  | succ n ih =>
    rw [sel]
    split
    · rename_i h
      rw [List.mem_append, ih, List.mem_singleton]
      constructor
      · rintro (⟨k, h1, h2, h3⟩ | h1)
        · exact ⟨k, by omega, h2, h3⟩
        · exact ⟨n, by omega, h, h1⟩
      · rintro ⟨k, h1, h2, h3⟩
        by_cases e : k = n
        · subst e; exact Or.inr h3
        · exact Or.inl ⟨k, by omega, h2, h3⟩
    · rename_i h
      rw [ih]
      constructor
      · rintro ⟨k, h1, h2, h3⟩; exact ⟨k, by omega, h2, h3⟩
      · rintro ⟨k, h1, h2, h3⟩
        by_cases e : k = n
        · subst e; exact absurd h2 h
        · exact ⟨k, by omega, h2, h3⟩

/-- Above both. -/
def both (L : List Com) (a b k : Nat) : Bool := (above L a).getD k false && (above L b).getD k false
/-- Who is a parent of one of both among the first k. -/
def furF (L : List Com) (bo : Nat → Bool) : Nat → List Bool
  | 0 => List.replicate L.length false
  | k + 1 => if bo k = true then mark (furF L bo k) (L.getD k ([], [])).2 else furF L bo k
theorem furF_len (L : List Com) (bo : Nat → Bool) (k : Nat) : (furF L bo k).length = L.length := by
  induction k with
  | zero => simp [furF]
  | succ k ih => rw [furF]; split
                 · rw [mark_len, ih]
                 · exact ih
theorem furF_iff {L : List Com} (R : Right L) (bo : Nat → Bool) (k : Nat) (i : Nat) : (furF L bo k).getD i false = true ↔ ∃ j p, j < k ∧ bo j = true ∧ p ∈ (L.getD j ([], [])).2 ∧ p.toNat = i := by
  induction k with
  | zero =>
    rw [furF]
    constructor
    · intro h
      simp only [List.getD, List.getElem?_replicate] at h
      split at h <;> simp at h
    · rintro ⟨j, p, h, _⟩; omega
  | succ k ih =>
    rw [furF]
    split
    · rename_i hb
      rw [mark_get _ _ (fun p hp => by rw [furF_len]; have := R.par hp; omega), ih]
      constructor
      · rintro (⟨j, p, h1, h2⟩ | ⟨p, hp, e⟩)
        · exact ⟨j, p, by omega, h2⟩
        · exact ⟨k, p, by omega, hb, hp, e⟩
      · rintro ⟨j, p, h1, h2, h3, h4⟩
        by_cases e : j = k
        · subst e; exact Or.inr ⟨p, h3, h4⟩
        · exact Or.inl ⟨j, p, by omega, h2, h3, h4⟩
    · rename_i hb
      rw [ih]
      constructor
      · rintro ⟨j, p, h1, h2⟩; exact ⟨j, p, by omega, h2⟩
      · rintro ⟨j, p, h1, h2, h3, h4⟩
        by_cases e : j = k
        · subst e; exact absurd h2 hb
        · exact ⟨j, p, by omega, h2, h3, h4⟩
def isBase (L : List Com) (a b k : Nat) : Bool := both L a b k && !((furF L (both L a b) L.length).getD k false)
def bases (L : List Com) (a b : Nat) : List Int := sel (isBase L a b) L.length

theorem both_iff {L : List Com} (R : Right L) {a b : Nat} (ha : a < L.length) (hb : b < L.length) (k : Nat) : both L a b k = true ↔ Anc L a k ∧ Anc L b k := by
  unfold both; rw [Bool.and_eq_true, above_iff R ha, above_iff R hb]

/-- Above another one of both, or a parent of one of both: it is the same. -/
theorem further_iff {L : List Com} (R : Right L) {a b : Nat} (ha : a < L.length) (hb : b < L.length) (k : Nat) :
    (furF L (both L a b) L.length).getD k false = true ↔ ∃ i, k < i ∧ i < L.length ∧ both L a b i = true ∧ (above L i).getD k false = true := by
  rw [furF_iff R]
  constructor
  · rintro ⟨j, p, h1, h2, h3, h4⟩
    have := R.par h3
    exact ⟨j, by omega, h1, h2, (above_iff R h1 k).2 (.up .self h3 h4)⟩
  · rintro ⟨i, h1, h2, h3, h4⟩
    obtain ⟨j, p, hj, hp, e⟩ := ((above_iff R h2 k).1 h4).last (by omega)
    have hb2 := (both_iff R ha hb i).1 h3
    exact ⟨j, p, (R.par hp).2, (both_iff R ha hb j).2 ⟨hb2.1.trans hj, hb2.2.trans hj⟩, hp, e⟩

theorem isBase_iff {L : List Com} (R : Right L) {a b : Nat} (ha : a < L.length) (hb : b < L.length) (k : Nat) :
    isBase L a b k = true ↔ both L a b k = true ∧ ∀ i, k < i → i < L.length → both L a b i = true → (above L i).getD k false = false := by
  unfold isBase
  rw [Bool.and_eq_true]
  refine and_congr_right fun _ => ?_
  have h := further_iff R ha hb k
  constructor
  · intro hn i h1 h2 h3
    by_cases h4 : (above L i).getD k false = true
    · rw [h.2 ⟨i, h1, h2, h3, h4⟩] at hn; simp at hn
    · simpa using h4
  · intro hn
    by_cases h5 : (furF L (both L a b) L.length).getD k false = true
    · obtain ⟨i, h1, h2, h3, h4⟩ := h.1 h5
      rw [hn i h1 h2 h3] at h4; simp at h4
    · simpa using h5

/-- Whoever is above both is above one of the bases. -/
theorem under_base {L : List Com} (R : Right L) {a b : Nat} (ha : a < L.length) (hb : b < L.length) (k : Nat) (hk : both L a b k = true) :
    ∃ i, i < L.length ∧ isBase L a b i = true ∧ (above L i).getD k false = true := by
  have hkl : k ≤ a := ((both_iff R ha hb k).1 hk).1.le R
  -- the greatest one of both that k is above
  obtain ⟨d, hd⟩ : ∃ d, L.length - k ≤ d := ⟨_, Nat.le_refl _⟩
  have : ∀ d j, L.length - j ≤ d → j < L.length → both L a b j = true → (above L j).getD k false = true → ∃ i, i < L.length ∧ isBase L a b i = true ∧ (above L i).getD k false = true := by
    intro d
    induction d with
    | zero => intro j h1 h2; omega
    | succ d ih =>
      intro j h1 h2 h3 h4
      by_cases hbs : isBase L a b j = true
      · exact ⟨j, h2, hbs, h4⟩
      · have hf : (furF L (both L a b) L.length).getD j false = true := by
          unfold isBase at hbs
          rw [h3] at hbs
          simpa using hbs
        obtain ⟨i, g1, g2, g3, g4⟩ := (further_iff R ha hb j).1 hf
        exact ih i (by omega) g2 g3 ((above_iff R g2 k).2 (((above_iff R g2 j).1 g4).trans ((above_iff R h2 k).1 h4)))
  exact this d k hd (by omega) hk ((above_iff R (by omega) k).2 .self)
end Go.Proofs.YtcgpgflnihjpiagGreat.M

/- Plain facts on heads and repos, with no program in sight. -/
namespace Go.Proofs.YtcgpgflnihjpiagGreat.M
open Go.PlainAid

/-- A head: its name, its commit's number. -/
abbrev Hd := ByteArray × Int
def hd0 : Hd := (ByteArray.empty, 0)
/-- From byte k on: letters alone. -/
def lets (s : ByteArray) (k : Nat) : Bool := decide (∀ i, i < s.size → k ≤ i → 97 ≤ bt s i ∧ bt s i ≤ 122)
theorem lets_end (s : ByteArray) (k : Nat) (h : s.size ≤ k) : lets s k = true := by
  unfold lets; rw [decide_eq_true]; intro i h1 h2; omega
theorem lets_bad (s : ByteArray) (k : Nat) (h : k < s.size) (hb : bt s k < 97 ∨ 122 < bt s k) : lets s k = false := by
  unfold lets; rw [decide_eq_false]; intro hh; have := hh k h (Nat.le_refl _); omega
theorem lets_good (s : ByteArray) (k : Nat) (h1 : 97 ≤ bt s k) (h2 : bt s k ≤ 122) : lets s k = lets s (k + 1) := by
  unfold lets
  rw [decide_eq_decide]
  constructor
  · intro h i a b; exact h i a (by omega)
  · intro h i a b
    by_cases e : i = k
    · subst e; exact ⟨h1, h2⟩
    · exact h i a (by omega)
/-- A name. -/
def nam (s : ByteArray) : Bool := decide (0 < s.size) && (decide (s.size ≤ 8) && lets s 0)
theorem nam_none (s : ByteArray) (h : s.size = 0) : nam s = false := by unfold nam; rw [decide_eq_false (by omega)]; rfl
theorem nam_long (s : ByteArray) (h : 8 < s.size) : nam s = false := by unfold nam; rw [decide_eq_false (p := s.size ≤ 8) (by omega)]; simp
theorem nam_few (s : ByteArray) (h0 : 0 < s.size) (h : s.size ≤ 8) : nam s = lets s 0 := by unfold nam; rw [decide_eq_true h0, decide_eq_true h]; rfl
theorem bt_decode (s : ByteArray) (k : Nat) (h : k < s.size) (hb : bt s k < 128) : Utf8.decode s k = ((bt s k).toNat, 1) := by
  have e : bt s k = ((s[k]'h).toNat : Int) := (get_bt s k h).symm
  rw [decode_ascii s k h (by omega), e]; rfl
theorem far_decode (s : ByteArray) (k : Nat) (h : k < s.size) (hb : 128 ≤ bt s k) : 128 ≤ (Utf8.decode s k).1 := by
  have e : bt s k = ((s[k]'h).toNat : Int) := (get_bt s k h).symm
  have e2 : s.get! k = s[k]'h := by simp [ByteArray.get!, getElem!_pos, h]; rfl
  rw [Lib.decode_at, e2]
  have h8 : 128 ≤ (s[k]'h).toNat := by omega
  unfold Lib.decodeN
  repeat' split
  all_goals (simp only [ge_iff_le] at *; omega)

def less (s t : ByteArray) : Bool := Op.bytesLess s.toList t.toList
def alike (s t : ByteArray) : Bool := s.toList == t.toList
/-- Names that rise behind a name. -/
def riseF (s : ByteArray) : List Hd → Bool
  | [] => true
  | h :: t => less s h.1 && riseF h.1 t
def rise : List Hd → Bool
  | [] => true
  | h :: t => riseF h.1 t
def inside (n : Nat) (H : List Hd) : Bool := H.all fun h => decide (0 ≤ h.2 ∧ h.2 < (n : Int))
def named (H : List Hd) : Bool := H.all fun h => nam h.1
/-- The error of a repo. -/
def rchk (C : List Com) (H : List Hd) : Int :=
  if dchk C ≠ 0 then dchk C else if 4 < H.length then 2 else if named H = false then 4 else if inside C.length H = false then 1 else if rise H = false then 1 else 0
def idxF {α : Type} (p : α → Bool) : List α → Nat → Int
  | [], _ => -1
  | h :: t, k => if p h = true then (k : Int) else idxF p t (k + 1)
theorem hdrop (l : List Hd) (k : Nat) (h : k < l.length) : l.drop k = l.getD k hd0 :: l.drop (k + 1) := by
  rw [List.drop_eq_getElem_cons h]; simp [List.getD, h]
theorem idxF_neg {α : Type} (p : α → Bool) (l : List α) (k : Nat) : 0 ≤ idxF p l k ↔ l.any p = true := by
  induction l generalizing k with
  | nil => simp [idxF]
  | cons h t ih =>
    unfold idxF
    by_cases hp : p h = true
    · simp [hp]
    · rw [if_neg hp, ih]; simp [hp]
theorem idxF_range {α : Type} (p : α → Bool) (l : List α) (k : Nat) : idxF p l k = -1 ∨ ((k : Int) ≤ idxF p l k ∧ idxF p l k < ((k + l.length : Nat) : Int)) := by
  induction l generalizing k with
  | nil => exact Or.inl rfl
  | cons h t ih =>
    unfold idxF
    by_cases hp : p h = true
    · rw [if_pos hp]; right; simp; omega
    · rw [if_neg hp]
      rcases ih (k + 1) with e | ⟨h1, h2⟩
      · exact Or.inl e
      · right; simp at h2 ⊢; omega
theorem idxF_at {α : Type} (p : α → Bool) (l : List α) (k : Nat) (d : α) (h : 0 ≤ idxF p l k) : p (l.getD ((idxF p l k).toNat - k) d) = true := by
  induction l generalizing k with
  | nil => simp [idxF] at h
  | cons x t ih =>
    unfold idxF at h ⊢
    by_cases hp : p x = true
    · rw [if_pos hp]; simp [hp]
    · rw [if_neg hp] at h ⊢
      have h2 := ih (k + 1) h
      have hr := idxF_range p t (k + 1)
      have e : (idxF p t (k + 1)).toNat - k = ((idxF p t (k + 1)).toNat - (k + 1)) + 1 := by omega
      rw [e, List.getD_cons_succ]; exact h2
theorem idxF_no {α : Type} (p : α → Bool) (l : List α) (k : Nat) (d : α) (h : k < l.length) (hp : p (l.getD k d) = false) : idxF p (l.drop k) k = idxF p (l.drop (k + 1)) (k + 1) := by
  rw [List.drop_eq_getElem_cons h]
  have e : l[k] = l.getD k d := by simp [List.getD, h]
  rw [e]
  show (if _ then _ else _) = _
  rw [if_neg (by rw [hp]; simp)]
theorem idxF_yes {α : Type} (p : α → Bool) (l : List α) (k : Nat) (d : α) (h : k < l.length) (hp : p (l.getD k d) = true) : idxF p (l.drop k) k = (k : Int) := by
  rw [List.drop_eq_getElem_cons h]
  have e : l[k] = l.getD k d := by simp [List.getD, h]
  rw [e]
  show (if _ then _ else _) = _
  rw [if_pos hp]
theorem idxF_end {α : Type} (p : α → Bool) (l : List α) (k : Nat) (h : l.length ≤ k) : idxF p (l.drop k) k = -1 := by
  rw [List.drop_eq_nil_of_le h]; rfl
theorem leq_less : ∀ x y : List UInt8, (Op.bytesLess x y || x == y) = !Op.bytesLess y x
  | [], [] => rfl
  | [], b :: y => by simp [Op.bytesLess]
  | a :: x, [] => by simp [Op.bytesLess]
  | a :: x, b :: y => by
    have ih := leq_less x y
    rw [Op.bytesLess, Op.bytesLess]
    by_cases h1 : a < b
    · have h2 : ¬ b < a := by rw [UInt8.lt_iff_toNat_lt] at *; omega
      have h3 : b ≠ a := by intro e; subst e; rw [UInt8.lt_iff_toNat_lt] at *; omega
      simp [h1, h2, h3]
    · by_cases h2 : b < a
      · have h3 : a ≠ b := by intro e; subst e; exact h1 h2
        simp [h1, h2, h3]
      · have h3 : a = b := by
          apply UInt8.toNat_inj.1
          rw [UInt8.lt_iff_toNat_lt] at *; omega
        subst h3
        simp only [h1, decide_false, Bool.false_or, BEq.rfl, Bool.true_and]
        rw [← ih]
        simp
theorem leq_not (s t : ByteArray) : (Op.bytesLess s.toList t.toList || s.toList == t.toList) = !less t s := leq_less _ _
theorem riseF_none (H : List Hd) (h : named H = true) : riseF (ByteArray.mk #[]) H = rise H := by
  cases H with
  | nil => rfl
  | cons x t =>
    have hx : nam x.1 = true := by unfold named at h; simp at h; exact h.1
    have h0 : 0 < x.1.size := by
      unfold nam at hx; simp at hx; have := hx.1; omega
    show (less _ x.1 && riseF x.1 t) = riseF x.1 t
    have : less (ByteArray.mk #[]) x.1 = true := by
      unfold less
      rw [ByteArray.toList_eq, ByteArray.toList_eq]
      cases hd : x.1.data.toList with
      | nil =>
        have : x.1.size = 0 := by show x.1.data.size = 0; rw [← Array.length_toList, hd]; rfl
        omega
      | cons a l => simp [Op.bytesLess]
    rw [this]; rfl
theorem riseF_end (s : ByteArray) (H : List Hd) (k : Nat) (h : H.length ≤ k) : riseF s (H.drop k) = true := by rw [List.drop_eq_nil_of_le h]; rfl
theorem riseF_at (s : ByteArray) (H : List Hd) (k : Nat) (h : k < H.length) (x : Hd) (e : H.getD k hd0 = x) : riseF s (H.drop k) = (less s x.1 && riseF x.1 (H.drop (k + 1))) := by
  rw [hdrop H k h, e]; rfl
theorem named_any (H : List Hd) : H.any (fun h => !nam h.1) = !named H := by
  unfold named; rw [List.not_all_eq_any_not]
theorem inside_any (n : Nat) (H : List Hd) : H.any (fun h => !decide (0 ≤ h.2 ∧ h.2 < (n : Int))) = !inside n H := by
  unfold inside; rw [List.not_all_eq_any_not]
/-- Where a head of that name stands; -1: there is none. -/
def plc (H : List Hd) (s : ByteArray) : Int := idxF (fun h => alike h.1 s) H 0
/-- The error of a head's name in a repo. -/
def hchk (C : List Com) (H : List Hd) (s : ByteArray) : Int := if rchk C H ≠ 0 then rchk C H else if plc H s < 0 then 5 else 0
/-- Its commit. -/
def hat (C : List Com) (H : List Hd) (s : ByteArray) : Int := if hchk C H s ≠ 0 then 0 else (H.getD (plc H s).toNat hd0).2
/-- The numbers of those of the first k that are so, falling. -/
def fallF (b : List Bool) : Nat → List Int
  | 0 => []
  | k + 1 => if b.getD k false = true then (k : Int) :: fallF b k else fallF b k
def logL (C : List Com) (H : List Hd) (s : ByteArray) : List Int := if hchk C H s ≠ 0 then [] else fallF (above C (hat C H s).toNat) C.length
theorem fallF_len (b : List Bool) (k : Nat) : (fallF b k).length ≤ k := by
  induction k with
  | zero => simp [fallF]
  | succ k ih =>
    unfold fallF
    split
    · simp; omega
    · omega
theorem rchk_zero {C : List Com} {H : List Hd} (h : rchk C H = 0) : dchk C = 0 ∧ H.length ≤ 4 ∧ named H = true ∧ inside C.length H = true ∧ rise H = true := by
  unfold rchk at h
  split at h
  · rename_i h1; exact absurd h h1
  · rename_i h1
    split at h
    · omega
    · split at h
      · omega
      · split at h
        · omega
        · split at h
          · omega
          · rename_i a b c d
            exact ⟨by simpa using h1, by omega, by simpa using b, by simpa using c, by simpa using d⟩
theorem hchk_zero {C : List Com} {H : List Hd} {s : ByteArray} (h : hchk C H s = 0) : rchk C H = 0 ∧ 0 ≤ plc H s := by
  unfold hchk at h
  split at h
  · rename_i h1; exact absurd h h1
  · rename_i h1
    split at h
    · omega
    · exact ⟨by simpa using h1, by omega⟩
theorem plc_lt (H : List Hd) (s : ByteArray) : plc H s = -1 ∨ (0 ≤ plc H s ∧ plc H s < (H.length : Int)) := by
  have := idxF_range (fun h : Hd => alike h.1 s) H 0
  unfold plc
  simpa using this
theorem inside_at {n : Nat} {H : List Hd} (h : inside n H = true) (k : Nat) (hk : k < H.length) : 0 ≤ (H.getD k hd0).2 ∧ (H.getD k hd0).2 < (n : Int) := by
  unfold inside at h
  rw [List.all_eq_true] at h
  have e : H.getD k hd0 = H[k] := by simp [List.getD, hk]
  have := h H[k] (List.getElem_mem hk)
  rw [e]; simpa using this
theorem rise_cons (x y : Hd) (t : List Hd) : rise (x :: y :: t) = (less x.1 y.1 && rise (y :: t)) := rfl
theorem rise_iff : ∀ H : List Hd, rise H = true ↔ ∀ k, k + 1 < H.length → less (H.getD k hd0).1 (H.getD (k + 1) hd0).1 = true
  | [] => by simp [rise]
  | [x] => by simp [rise, riseF]
  | x :: y :: t => by
    rw [rise_cons, Bool.and_eq_true, rise_iff (y :: t)]
    constructor
    · rintro ⟨h1, h2⟩ k hk
      cases k with
      | zero => exact h1
      | succ k =>
        have := h2 k (by simpa using hk)
        simpa using this
    · intro h
      refine ⟨h 0 (by simp), fun k hk => ?_⟩
      have := h (k + 1) (by simpa using hk)
      simpa using this
theorem inside_iff (n : Nat) (H : List Hd) : inside n H = true ↔ ∀ k, k < H.length → 0 ≤ (H.getD k hd0).2 ∧ (H.getD k hd0).2 < (n : Int) := by
  constructor
  · exact fun h k hk => inside_at h k hk
  · intro h
    unfold inside
    rw [List.all_eq_true]
    intro x hx
    obtain ⟨i, hi, e⟩ := List.getElem_of_mem hx
    have := h i hi
    rw [show H.getD i hd0 = x by simp [List.getD, hi, e]] at this
    simpa using this
/-- The heads ahead of k are in order, and inside. -/
def fineTo (n : Nat) (H : List Hd) (k : Nat) : Prop := ∀ j, j < k → (∀ i, i + 1 = j → less (H.getD i hd0).1 (H.getD j hd0).1 = true) ∧ 0 ≤ (H.getD j hd0).2 ∧ (H.getD j hd0).2 < (n : Int)
theorem fineTo_end {n : Nat} {H : List Hd} (h : fineTo n H H.length) : inside n H = true ∧ rise H = true :=
  ⟨(inside_iff n H).2 fun k hk => (h k hk).2, (rise_iff H).2 fun k hk => (h (k + 1) hk).1 k rfl⟩
theorem fineTo_bad {n : Nat} {H : List Hd} {k : Nat} (hk : k < H.length) (hb : (∃ i, i + 1 = k ∧ less (H.getD i hd0).1 (H.getD k hd0).1 = false) ∨ (H.getD k hd0).2 < 0 ∨ (n : Int) ≤ (H.getD k hd0).2) : inside n H = false ∨ rise H = false := by
  by_cases h1 : inside n H = false
  · exact Or.inl h1
  · right
    have h1 : inside n H = true := by simpa using h1
    have h2 := (inside_iff n H).1 h1 k hk
    rcases hb with ⟨i, hi, hl⟩ | hb
    · by_cases h3 : rise H = true
      · subst hi
        have := (rise_iff H).1 h3 i hk
        rw [hl] at this; simp at this
      · simpa using h3
    · omega
theorem fineTo_next {n : Nat} {H : List Hd} {k : Nat} (h : fineTo n H k) (h1 : ∀ i, i + 1 = k → less (H.getD i hd0).1 (H.getD k hd0).1 = true) (h2 : 0 ≤ (H.getD k hd0).2 ∧ (H.getD k hd0).2 < (n : Int)) : fineTo n H (k + 1) := by
  intro j hj
  by_cases e : j = k
  · subst e; exact ⟨h1, h2⟩
  · exact h j (by omega)
theorem named_at {H : List Hd} (h : ∀ k, k < H.length → nam (H.getD k hd0).1 = true) : named H = true := by
  unfold named
  rw [List.all_eq_true]
  intro x hx
  obtain ⟨i, hi, e⟩ := List.getElem_of_mem hx
  have := h i hi
  rw [show H.getD i hd0 = x by simp [List.getD, hi, e]] at this
  exact this
theorem named_no {H : List Hd} {k : Nat} (hk : k < H.length) (h : nam (H.getD k hd0).1 = false) : named H = false := by
  unfold named
  rw [List.all_eq_false]
  exact ⟨H[k], List.getElem_mem hk, by have e : H.getD k hd0 = H[k] := by simp [List.getD, hk]
                                       rw [← e, h]; simp⟩
theorem hat_in {C : List Com} {H : List Hd} {s : ByteArray} (h : hchk C H s = 0) : 0 ≤ hat C H s ∧ hat C H s < (C.length : Int) := by
  obtain ⟨h1, h2⟩ := hchk_zero h
  unfold hat
  rw [if_neg (by simpa using h)]
  have hp := plc_lt H s
  exact inside_at (rchk_zero h1).2.2.2.1 _ (by omega)
end Go.Proofs.YtcgpgflnihjpiagGreat.M

/- A change. -/
namespace Go.Proofs.YtcgpgflnihjpiagGreat.M
/-- A change: its key, what it was, what it is. -/
abbrev Chg := Int × Int × Int
end Go.Proofs.YtcgpgflnihjpiagGreat.M

/- Plain facts on bytes: numbers, texts, acts and repos, written and read, with no program in sight. -/
namespace Go.Proofs.YtcgpgflnihjpiagGreat.M

abbrev By := List UInt8
def b1 (n : Int) : UInt8 := UInt8.ofNat n.toNat
def b2 (n : Int) : By := [UInt8.ofNat (n.toNat / 256), UInt8.ofNat (n.toNat % 256)]
theorem b1_nat {n : Int} (h0 : 0 ≤ n) (h1 : n < 256) : ((b1 n).toNat : Int) = n := by
  unfold b1
  rw [UInt8.toNat_ofNat', Nat.mod_eq_of_lt (by omega)]
  omega
theorem b1_of (b : UInt8) : b1 (b.toNat : Int) = b := by
  unfold b1
  rw [Int.toNat_natCast]
  exact UInt8.ofNat_toNat

/-! ### reading -/
def rB : By → Option (Int × By)
  | [] => none
  | b :: t => some ((b.toNat : Int), t)
def r2 : By → Option (Int × By)
  | x :: y :: t => some (256 * (x.toNat : Int) + (y.toNat : Int), t)
  | _ => none
def rT : By → Option (By × By)
  | [] => none
  | b :: t => if b.toNat ≤ t.length then some (t.take b.toNat, t.drop b.toNat) else none
def rN {α : Type} (f : By → Option (α × By)) : Nat → By → Option (List α × By)
  | 0, l => some ([], l)
  | n + 1, l => match f l with
    | none => none
    | some (x, l1) => match rN f n l1 with
      | none => none
      | some (xs, l2) => some (x :: xs, l2)
def rL {α : Type} (f : By → Option (α × By)) (l : By) : Option (List α × By) := match rB l with
  | none => none
  | some (n, l1) => rN f n.toNat l1
theorem rN_snoc {α : Type} (f : By → Option (α × By)) (k : Nat) (l : By) : rN f (k + 1) l = match rN f k l with
    | none => none
    | some (xs, l1) => match f l1 with
      | none => none
      | some (x, l2) => some (xs ++ [x], l2) := by
  induction k generalizing l with
  | zero =>
    simp only [rN]
    cases f l with
    | none => rfl
    | some p => rfl
  | succ k ih =>
    rw [rN]
    conv => rhs; rw [rN]
    cases h : f l with
    | none => rfl
    | some p =>
      obtain ⟨x, l1⟩ := p
      simp only
      rw [ih l1]
      cases rN f k l1 with
      | none => rfl
      | some q =>
        obtain ⟨xs, l2⟩ := q
        simp only
        cases f l2 with
        | none => rfl
        | some q => rfl
theorem rN_none {α : Type} (f : By → Option (α × By)) (k n : Nat) (l : By) (h : rN f k l = none) (hk : k ≤ n) : rN f n l = none := by
  induction n with
  | zero => obtain rfl : k = 0 := by omega
            exact h
  | succ n ih =>
    by_cases e : k = n + 1
    · subst e; exact h
    · rw [rN_snoc, ih (by omega)]

/-! ### writing -/
def pT (s : By) : By := b1 s.length :: s
theorem rB_p {n : Int} (h0 : 0 ≤ n) (h1 : n < 256) (t : By) : rB (b1 n :: t) = some (n, t) := by
  show some (((b1 n).toNat : Int), t) = _
  rw [b1_nat h0 h1]
theorem rB_inv {l t : By} {n : Int} (h : rB l = some (n, t)) : l = b1 n :: t ∧ 0 ≤ n ∧ n < 256 := by
  cases l with
  | nil => simp [rB] at h
  | cons b u =>
    simp only [rB, Option.some.injEq, Prod.mk.injEq] at h
    obtain ⟨rfl, rfl⟩ := h
    refine ⟨by rw [b1_of], by omega, ?_⟩
    have := b.toNat_lt; omega
theorem r2_p {n : Int} (h0 : 0 ≤ n) (h1 : n < 65536) (t : By) : r2 (b2 n ++ t) = some (n, t) := by
  unfold b2 r2
  simp only [List.cons_append, List.nil_append, Option.some.injEq, Prod.mk.injEq, and_true]
  rw [UInt8.toNat_ofNat', UInt8.toNat_ofNat', Nat.mod_eq_of_lt (a := n.toNat / 256) (by omega), Nat.mod_eq_of_lt (a := n.toNat % 256) (by omega)]
  omega
theorem r2_inv {l t : By} {n : Int} (h : r2 l = some (n, t)) : l = b2 n ++ t ∧ 0 ≤ n ∧ n < 65536 := by
  match l, h with
  | [], h => simp [r2] at h
  | [x], h => simp [r2] at h
  | x :: y :: u, h =>
    simp only [r2, Option.some.injEq, Prod.mk.injEq] at h
    obtain ⟨rfl, rfl⟩ := h
    have hx := x.toNat_lt
    have hy := y.toNat_lt
    refine ⟨?_, by omega, by omega⟩
    unfold b2
    rw [show (256 * (x.toNat : Int) + (y.toNat : Int)).toNat / 256 = x.toNat by omega, show (256 * (x.toNat : Int) + (y.toNat : Int)).toNat % 256 = y.toNat by omega, UInt8.ofNat_toNat, UInt8.ofNat_toNat]
    rfl
theorem rT_p {s : By} (h : s.length < 256) (t : By) : rT (pT s ++ t) = some (s, t) := by
  unfold pT rT
  have e : (b1 (s.length : Int)).toNat = s.length := by have := b1_nat (n := (s.length : Int)) (by omega) (by omega); omega
  simp only [List.cons_append]
  rw [e, if_pos (by simp), List.take_left, List.drop_left]
theorem rT_inv {l t s : By} (h : rT l = some (s, t)) : l = pT s ++ t ∧ s.length < 256 := by
  cases l with
  | nil => simp [rT] at h
  | cons b u =>
    rw [rT] at h
    split at h
    · rename_i hb
      simp only [Option.some.injEq, Prod.mk.injEq] at h
      obtain ⟨rfl, rfl⟩ := h
      have hl : (u.take b.toNat).length = b.toNat := by rw [List.length_take]; omega
      refine ⟨?_, by rw [hl]; exact b.toNat_lt⟩
      unfold pT
      rw [hl, b1_of, List.cons_append, List.take_append_drop]
    · simp at h
theorem rN_p {α : Type} {f : By → Option (α × By)} {p : α → By} (xs : List α) (h : ∀ x ∈ xs, ∀ t, f (p x ++ t) = some (x, t)) (t : By) : rN f xs.length (xs.flatMap p ++ t) = some (xs, t) := by
  induction xs with
  | nil => rfl
  | cons x xs ih =>
    rw [List.flatMap_cons, List.length_cons, rN, List.append_assoc, h x (by simp)]
    simp only
    rw [ih (fun y hy => h y (by simp [hy]))]
theorem rN_inv {α : Type} {f : By → Option (α × By)} {p : α → By} {q : α → Prop} (h : ∀ l x t, f l = some (x, t) → l = p x ++ t ∧ q x) : ∀ (n : Nat) (l : By) (xs : List α) (t : By), rN f n l = some (xs, t) → l = xs.flatMap p ++ t ∧ xs.length = n ∧ ∀ x ∈ xs, q x
  | 0, l, xs, t, hh => by
    simp only [rN, Option.some.injEq, Prod.mk.injEq] at hh
    obtain ⟨rfl, rfl⟩ := hh
    exact ⟨rfl, rfl, fun x hx => by simp at hx⟩
  | n + 1, l, xs, t, hh => by
    rw [rN] at hh
    split at hh
    · simp at hh
    · rename_i x l1 hx
      split at hh
      · simp at hh
      · rename_i ys l2 hy
        simp only [Option.some.injEq, Prod.mk.injEq] at hh
        obtain ⟨rfl, rfl⟩ := hh
        obtain ⟨e1, q1⟩ := h _ _ _ hx
        obtain ⟨e2, l3, q2⟩ := rN_inv h n _ _ _ hy
        refine ⟨by rw [e1, e2, List.flatMap_cons, List.append_assoc], by simp [l3], fun y hy => ?_⟩
        rcases List.mem_cons.1 hy with rfl | hy
        · exact q1
        · exact q2 y hy
def pL {α : Type} (p : α → By) (xs : List α) : By := b1 xs.length :: xs.flatMap p
theorem rL_p {α : Type} {f : By → Option (α × By)} {p : α → By} (xs : List α) (hl : xs.length < 256) (h : ∀ x ∈ xs, ∀ t, f (p x ++ t) = some (x, t)) (t : By) : rL f (pL p xs ++ t) = some (xs, t) := by
  unfold rL pL
  rw [List.cons_append, rB_p (by omega) (by omega)]
  simp only
  rw [Int.toNat_natCast, rN_p xs h t]
theorem rL_inv {α : Type} {f : By → Option (α × By)} {p : α → By} {q : α → Prop} (h : ∀ l x t, f l = some (x, t) → l = p x ++ t ∧ q x) {l t : By} {xs : List α} (hh : rL f l = some (xs, t)) : l = pL p xs ++ t ∧ xs.length < 256 ∧ ∀ x ∈ xs, q x := by
  unfold rL at hh
  split at hh
  · simp at hh
  · rename_i n l1 hB
    obtain ⟨e1, n0, n1⟩ := rB_inv hB
    obtain ⟨e2, hl, hq⟩ := rN_inv h _ _ _ _ hh
    refine ⟨?_, by omega, hq⟩
    unfold pL
    rw [e1, e2, hl, Int.toNat_of_nonneg n0, List.cons_append]

/-! ### acts -/
structure Act where
  kind : Int
  one : By
  two : By
  chs : List Chg
def pC (c : Chg) : By := b1 c.1 :: (b2 (c.2.1 + 1) ++ b2 (c.2.2 + 1))
def pA (x : Act) : By := b1 x.kind :: (pT x.one ++ (pT x.two ++ pL pC x.chs))
def rC (l : By) : Option (Chg × By) := match rB l with
  | none => none
  | some (k, l1) => match r2 l1 with
    | none => none
    | some (o, l2) => match r2 l2 with
      | none => none
      | some (n, l3) => some ((k, o - 1, n - 1), l3)
def rA (l : By) : Option (Act × By) := match rB l with
  | none => none
  | some (k, l1) => match rT l1 with
    | none => none
    | some (o, l2) => match rT l2 with
      | none => none
      | some (n, l3) => match rL rC l3 with
        | none => none
        | some (c, l4) => some (⟨k, o, n, c⟩, l4)
def okC (c : Chg) : Prop := 0 ≤ c.1 ∧ c.1 < 256 ∧ 0 ≤ c.2.1 + 1 ∧ c.2.1 + 1 < 65536 ∧ 0 ≤ c.2.2 + 1 ∧ c.2.2 + 1 < 65536
def okA (x : Act) : Prop := (0 ≤ x.kind ∧ x.kind < 256) ∧ x.one.length < 256 ∧ x.two.length < 256 ∧ x.chs.length < 256 ∧ ∀ c ∈ x.chs, okC c
theorem rC_p {c : Chg} (h : okC c) (t : By) : rC (pC c ++ t) = some (c, t) := by
  obtain ⟨h1, h2, h3, h4, h5, h6⟩ := h
  unfold rC pC
  rw [List.cons_append, rB_p h1 h2, List.append_assoc]
  simp only
  rw [r2_p h3 h4]
  simp only
  rw [r2_p h5 h6]
  simp
theorem rC_inv {l t : By} {c : Chg} (h : rC l = some (c, t)) : l = pC c ++ t ∧ okC c := by
  unfold rC at h
  split at h
  · simp at h
  · rename_i k l1 e1
    split at h
    · simp at h
    · rename_i o l2 e2
      split at h
      · simp at h
      · rename_i n l3 e3
        simp only [Option.some.injEq, Prod.mk.injEq] at h
        obtain ⟨rfl, rfl⟩ := h
        obtain ⟨a1, a2, a3⟩ := rB_inv e1
        obtain ⟨c1, c2, c3⟩ := r2_inv e2
        obtain ⟨d1, d2, d3⟩ := r2_inv e3
        refine ⟨?_, a2, a3, by show 0 ≤ o - 1 + 1; omega, by show o - 1 + 1 < 65536; omega, by show 0 ≤ n - 1 + 1; omega, by show n - 1 + 1 < 65536; omega⟩
        unfold pC
        simp only
        rw [a1, c1, d1, Int.sub_add_cancel, Int.sub_add_cancel, List.cons_append, List.append_assoc]
theorem rA_p {x : Act} (h : okA x) (t : By) : rA (pA x ++ t) = some (x, t) := by
  obtain ⟨⟨h1, h2⟩, h3, h4, h5, h6⟩ := h
  unfold rA pA
  rw [List.cons_append, rB_p h1 h2]
  simp only
  rw [List.append_assoc, rT_p h3]
  simp only
  rw [List.append_assoc, rT_p h4]
  simp only
  rw [rL_p x.chs h5 (fun c hc => rC_p (h6 c hc))]
theorem rA_inv {l t : By} {x : Act} (h : rA l = some (x, t)) : l = pA x ++ t ∧ okA x := by
  unfold rA at h
  split at h
  · simp at h
  · rename_i k l1 e1
    split at h
    · simp at h
    · rename_i o l2 e2
      split at h
      · simp at h
      · rename_i n l3 e3
        split at h
        · simp at h
        · rename_i c l4 e4
          simp only [Option.some.injEq, Prod.mk.injEq] at h
          obtain ⟨rfl, rfl⟩ := h
          obtain ⟨a1, a2, a3⟩ := rB_inv e1
          obtain ⟨c1, c2⟩ := rT_inv e2
          obtain ⟨d1, d2⟩ := rT_inv e3
          obtain ⟨f1, f2, f3⟩ := rL_inv (fun _ _ _ => rC_inv) e4
          refine ⟨?_, ⟨a2, a3⟩, c2, d2, f2, f3⟩
          unfold pA
          simp only
          rw [a1, c1, d1, f1]
          simp [List.append_assoc]

/-! ### repos -/
def pR (r : Int × Int) : By := b1 r.1 :: b2 r.2
def pCo (c : Com) : By := pL pR c.1 ++ pL (fun p => [b1 p]) c.2
def pHd (h : By × Int) : By := pT h.1 ++ [b1 h.2]
def pRe (r : List Com × List (By × Int)) : By := pL pCo r.1 ++ pL pHd r.2
def rR (l : By) : Option ((Int × Int) × By) := match rB l with
  | none => none
  | some (k, l1) => match r2 l1 with
    | none => none
    | some (v, l2) => some ((k, v), l2)
def rCo (l : By) : Option (Com × By) := match rL rR l with
  | none => none
  | some (r, l1) => match rL rB l1 with
    | none => none
    | some (p, l2) => some ((r, p), l2)
def rHd (l : By) : Option ((By × Int) × By) := match rT l with
  | none => none
  | some (n, l1) => match rB l1 with
    | none => none
    | some (a, l2) => some ((n, a), l2)
def rRe (l : By) : Option ((List Com × List (By × Int)) × By) := match rL rCo l with
  | none => none
  | some (c, l1) => match rL rHd l1 with
    | none => none
    | some (h, l2) => some ((c, h), l2)
def okB (n : Int) : Prop := 0 ≤ n ∧ n < 256
def okR (r : Int × Int) : Prop := okB r.1 ∧ 0 ≤ r.2 ∧ r.2 < 65536
def okCo (c : Com) : Prop := (c.1.length < 256 ∧ ∀ r ∈ c.1, okR r) ∧ c.2.length < 256 ∧ ∀ p ∈ c.2, okB p
def okHd (h : By × Int) : Prop := h.1.length < 256 ∧ okB h.2
def okRe (r : List Com × List (By × Int)) : Prop := (r.1.length < 256 ∧ ∀ c ∈ r.1, okCo c) ∧ r.2.length < 256 ∧ ∀ h ∈ r.2, okHd h
theorem rR_p {r : Int × Int} (h : okR r) (t : By) : rR (pR r ++ t) = some (r, t) := by
  obtain ⟨⟨h1, h2⟩, h3, h4⟩ := h
  unfold rR pR
  rw [List.cons_append, rB_p h1 h2]
  simp only
  rw [r2_p h3 h4]
theorem rR_inv {l t : By} {r : Int × Int} (h : rR l = some (r, t)) : l = pR r ++ t ∧ okR r := by
  unfold rR at h
  split at h
  · simp at h
  · rename_i k l1 e1
    split at h
    · simp at h
    · rename_i o l2 e2
      simp only [Option.some.injEq, Prod.mk.injEq] at h
      obtain ⟨rfl, rfl⟩ := h
      obtain ⟨a1, a2, a3⟩ := rB_inv e1
      obtain ⟨c1, c2, c3⟩ := r2_inv e2
      refine ⟨?_, ⟨a2, a3⟩, c2, c3⟩
      unfold pR
      simp only
      rw [a1, c1, List.cons_append]
theorem rBs_p {n : Int} (h : okB n) (t : By) : rB ([b1 n] ++ t) = some (n, t) := rB_p h.1 h.2 t
theorem rBs_inv {l t : By} {n : Int} (h : rB l = some (n, t)) : l = [b1 n] ++ t ∧ okB n := by
  obtain ⟨a1, a2, a3⟩ := rB_inv h
  exact ⟨a1, a2, a3⟩
theorem rCo_p {c : Com} (h : okCo c) (t : By) : rCo (pCo c ++ t) = some (c, t) := by
  obtain ⟨⟨h1, h2⟩, h3, h4⟩ := h
  unfold rCo pCo
  rw [List.append_assoc, rL_p c.1 h1 (fun r hr => rR_p (h2 r hr))]
  simp only
  rw [rL_p c.2 h3 (fun p hp => rBs_p (h4 p hp))]
theorem rCo_inv {l t : By} {c : Com} (h : rCo l = some (c, t)) : l = pCo c ++ t ∧ okCo c := by
  unfold rCo at h
  split at h
  · simp at h
  · rename_i r l1 e1
    split at h
    · simp at h
    · rename_i p l2 e2
      simp only [Option.some.injEq, Prod.mk.injEq] at h
      obtain ⟨rfl, rfl⟩ := h
      obtain ⟨a1, a2, a3⟩ := rL_inv (fun _ _ _ => rR_inv) e1
      obtain ⟨c1, c2, c3⟩ := rL_inv (fun _ _ _ => rBs_inv) e2
      refine ⟨?_, ⟨a2, a3⟩, c2, c3⟩
      unfold pCo
      simp only
      rw [a1, c1, List.append_assoc]
theorem rHd_p {h : By × Int} (hk : okHd h) (t : By) : rHd (pHd h ++ t) = some (h, t) := by
  obtain ⟨h1, h2⟩ := hk
  unfold rHd pHd
  rw [List.append_assoc, rT_p h1]
  simp only
  rw [rBs_p h2]
theorem rHd_inv {l t : By} {h : By × Int} (hh : rHd l = some (h, t)) : l = pHd h ++ t ∧ okHd h := by
  unfold rHd at hh
  split at hh
  · simp at hh
  · rename_i n l1 e1
    split at hh
    · simp at hh
    · rename_i a l2 e2
      simp only [Option.some.injEq, Prod.mk.injEq] at hh
      obtain ⟨rfl, rfl⟩ := hh
      obtain ⟨a1, a2⟩ := rT_inv e1
      obtain ⟨c1, c2⟩ := rBs_inv e2
      refine ⟨?_, a2, c2⟩
      unfold pHd
      simp only
      rw [a1, c1, List.append_assoc]
theorem rRe_p {r : List Com × List (By × Int)} (h : okRe r) (t : By) : rRe (pRe r ++ t) = some (r, t) := by
  obtain ⟨⟨h1, h2⟩, h3, h4⟩ := h
  unfold rRe pRe
  rw [List.append_assoc, rL_p r.1 h1 (fun c hc => rCo_p (h2 c hc))]
  simp only
  rw [rL_p r.2 h3 (fun p hp => rHd_p (h4 p hp))]
theorem rRe_inv {l t : By} {r : List Com × List (By × Int)} (h : rRe l = some (r, t)) : l = pRe r ++ t ∧ okRe r := by
  unfold rRe at h
  split at h
  · simp at h
  · rename_i c l1 e1
    split at h
    · simp at h
    · rename_i hs l2 e2
      simp only [Option.some.injEq, Prod.mk.injEq] at h
      obtain ⟨rfl, rfl⟩ := h
      obtain ⟨a1, a2, a3⟩ := rL_inv (fun _ _ _ => rCo_inv) e1
      obtain ⟨c1, c2, c3⟩ := rL_inv (fun _ _ _ => rHd_inv) e2
      refine ⟨?_, ⟨a2, a3⟩, c2, c3⟩
      unfold pRe
      simp only
      rw [a1, c1, List.append_assoc]
end Go.Proofs.YtcgpgflnihjpiagGreat.M

/- Plain facts on logs: acts, one behind the other, and logs that are cut, with no program in sight. -/
namespace Go.Proofs.YtcgpgflnihjpiagGreat.M

/-- The acts that a text begins with, n at most, and what is behind them. -/
def rAs : Nat → By → List Act × By
  | 0, l => ([], l)
  | n + 1, l => match rA l with
    | none => ([], l)
    | some (x, l1) => (x :: (rAs n l1).1, (rAs n l1).2)
theorem pA_pos (x : Act) : 4 ≤ (pA x).length := by
  unfold pA pT pL
  simp; omega
theorem rA_less {l t : By} {x : Act} (h : rA l = some (x, t)) : t.length + 4 ≤ l.length := by
  rw [(rA_inv h).1, List.length_append]
  have := pA_pos x
  omega
/-- Cut within an act, there is none. -/
theorem rA_cut {x : Act} (h : okA x) (j : Nat) (hj : j < (pA x).length) : rA ((pA x).take j) = none := by
  cases e : rA ((pA x).take j) with
  | none => rfl
  | some p =>
    exfalso
    obtain ⟨y, t⟩ := p
    obtain ⟨e1, oy⟩ := rA_inv e
    have e2 : pA x = pA y ++ (t ++ (pA x).drop j) := by rw [← List.append_assoc, ← e1, List.take_append_drop]
    have h1 := rA_p h []
    rw [List.append_nil] at h1
    have h2 := rA_p oy (t ++ (pA x).drop j)
    rw [← e2, h1] at h2
    simp only [Option.some.injEq, Prod.mk.injEq] at h2
    have h3 := congrArg List.length h2.2
    simp at h3
    omega
theorem rAs_len (n : Nat) (l : By) : (rAs n l).1.length ≤ n ∧ (rAs n l).2.length ≤ l.length := by
  induction n generalizing l with
  | zero => simp [rAs]
  | succ n ih =>
    rw [rAs]
    split
    · simp
    · rename_i x l1 e
      have := rA_less e
      have := ih l1
      simp; omega
theorem rAs_none (n : Nat) (l : By) (h : rA l = none) : rAs n l = ([], l) := by
  cases n with
  | zero => rfl
  | succ n => rw [rAs, h]
theorem rAs_ok (n : Nat) (l : By) : ∀ x ∈ (rAs n l).1, okA x := by
  induction n generalizing l with
  | zero => simp [rAs]
  | succ n ih =>
    rw [rAs]
    split
    · simp
    · rename_i x l1 e
      intro y hy
      rcases List.mem_cons.1 hy with rfl | hy
      · exact (rA_inv e).2
      · exact ih l1 y hy
/-- What was read, written again. -/
theorem rAs_inv (n : Nat) (l : By) : l = (rAs n l).1.flatMap pA ++ (rAs n l).2 := by
  induction n generalizing l with
  | zero => simp [rAs]
  | succ n ih =>
    rw [rAs]
    split
    · simp
    · rename_i x l1 e
      rw [List.flatMap_cons, List.append_assoc, ← ih l1]
      exact (rA_inv e).1
/-- Acts that were written, and something more. -/
theorem rAs_p (xs : List Act) (h : ∀ x ∈ xs, okA x) (n : Nat) (t : By) : rAs (xs.length + n) (xs.flatMap pA ++ t) = (xs ++ (rAs n t).1, (rAs n t).2) := by
  induction xs with
  | nil => simp
  | cons x xs ih =>
    rw [List.length_cons, show xs.length + 1 + n = (xs.length + n) + 1 by omega, rAs, List.flatMap_cons, List.append_assoc, rA_p (h x (by simp))]
    simp only
    rw [ih (fun y hy => h y (by simp [hy]))]
    rfl
/-- How many of the acts are whole in the first k bytes. -/
def whole : List Act → Nat → Nat
  | [], _ => 0
  | x :: xs, k => if (pA x).length ≤ k then whole xs (k - (pA x).length) + 1 else 0
theorem whole_le (xs : List Act) (k : Nat) : whole xs k ≤ xs.length := by
  induction xs generalizing k with
  | nil => simp [whole]
  | cons x xs ih =>
    rw [whole]
    split
    · have := ih (k - (pA x).length); simp; omega
    · simp
theorem rAs_cut (xs : List Act) (h : ∀ x ∈ xs, okA x) (n k : Nat) (hn : xs.length ≤ n) (hk : k ≤ (xs.flatMap pA).length) : (rAs n ((xs.flatMap pA).take k)).1 = xs.take (whole xs k) := by
  induction xs generalizing n k with
  | nil =>
    simp only [List.flatMap_nil, List.take_nil, whole]
    rw [rAs_none _ _ (by rfl)]
  | cons x xs ih =>
    obtain ⟨m, rfl⟩ : ∃ m, n = m + 1 := ⟨n - 1, by simp at hn; omega⟩
    rw [List.flatMap_cons, whole]
    split
    · rename_i hx
      rw [List.take_append, List.take_of_length_le hx, rAs, rA_p (h x (by simp))]
      simp only
      rw [ih (fun y hy => h y (by simp [hy])) m (k - (pA x).length) (by simpa using hn) (by rw [List.flatMap_cons, List.length_append] at hk; omega), List.take_succ_cons]
    · rename_i hx
      rw [List.take_append, show k - (pA x).length = 0 by omega, List.take_zero, List.append_nil, rAs_none _ _ (rA_cut (h x (by simp)) k (by omega))]
      simp
end Go.Proofs.YtcgpgflnihjpiagGreat.M

/- Plain facts on what a pen has put, with no program in sight. -/
namespace Go.Proofs.YtcgpgflnihjpiagGreat.M

def pnB (two : Bool) (n : Int) : Bool := decide (0 ≤ n ∧ n < (if two = true then 65536 else 256))
def pnE (two : Bool) (n : Int) : By := if two = true then b2 n else [b1 n]
/-- One number more: the bytes, and whether a number could not stand. -/
def pnS (two : Bool) (st : By × Bool) (n : Int) : By × Bool := if st.2 = true then st else if pnB two n = true then (st.1 ++ pnE two n, false) else (st.1, true)
def pnL (two : Bool) (st : By × Bool) (ns : List Int) : By × Bool := ns.foldl (pnS two) st
theorem pnL_over (two : Bool) (l : By) (ns : List Int) : pnL two (l, true) ns = (l, true) := by
  induction ns with
  | nil => rfl
  | cons n t ih => unfold pnL at ih ⊢; rw [List.foldl_cons]; exact ih
theorem pnL_take (two : Bool) (st : By × Bool) (ns : List Int) (k : Nat) (h : k < ns.length) : pnL two st (ns.take (k + 1)) = pnS two (pnL two st (ns.take k)) (ns.getD k 0) := by
  unfold pnL
  rw [List.take_succ_eq_append_getElem h, List.foldl_append]
  simp [List.getD, h]
/-- Over once, over for all. -/
theorem pnL_stays (two : Bool) (st : By × Bool) (ns : List Int) (k : Nat) (h : (pnL two st (ns.take k)).2 = true) : pnL two st ns = pnL two st (ns.take k) := by
  have e : pnL two st ns = pnL two (pnL two st (ns.take k)) (ns.drop k) := by
    unfold pnL
    rw [← List.foldl_append, List.take_append_drop]
  rw [e]
  generalize pnL two st (ns.take k) = q at *
  obtain ⟨l, o⟩ := q
  simp only at h
  subst h
  exact pnL_over two l _
theorem byte_mod (n : Nat) : UInt8.ofNat (n % 256) = UInt8.ofNat n := by
  apply UInt8.toNat_inj.1
  rw [UInt8.toNat_ofNat', UInt8.toNat_ofNat']
  omega
/-- A text. -/
def pnT (st : By × Bool) (s : By) : By × Bool := if (pnS false st s.length).2 = true then pnS false st s.length else ((pnS false st s.length).1 ++ s, false)

theorem pnS_len (two : Bool) (st : By × Bool) (n : Int) : (pnS two st n).1.length ≤ st.1.length + 2 := by
  unfold pnS pnE b2
  split
  · omega
  · split
    · cases two <;> simp
    · simp
theorem pnL_len (two : Bool) (st : By × Bool) (ns : List Int) : (pnL two st ns).1.length ≤ st.1.length + 2 * ns.length := by
  unfold pnL
  induction ns generalizing st with
  | nil => simp
  | cons n t ih =>
    rw [List.foldl_cons, List.length_cons]
    have h1 := ih (pnS two st n)
    have h2 := pnS_len two st n
    omega
theorem pnS_small {st : By × Bool} {n : Nat} (h : (pnS false st (n : Int)).2 = false) : n < 256 := by
  unfold pnS pnB at h
  by_cases h1 : st.2 = true
  · rw [if_pos h1] at h; rw [h1] at h; cases h
  · rw [if_neg h1] at h
    by_cases h2 : n < 256
    · exact h2
    · rw [if_neg (by simp; omega)] at h; cases h
theorem pnL_one (two : Bool) (st : By × Bool) (n : Int) : pnL two st [n] = pnS two st n := rfl

theorem pnS_over (two : Bool) (l : By) (n : Int) : pnS two (l, true) n = (l, true) := rfl
theorem pnT_over (l s : By) : pnT (l, true) s = (l, true) := rfl
theorem pnT_len (st : By × Bool) (s : By) : (pnT st s).1.length ≤ st.1.length + 257 := by
  unfold pnT
  have h := pnS_len false st s.length
  split
  · omega
  · rename_i h1
    have h2 := pnS_small (by simpa using h1)
    rw [List.length_append]
    omega
/-- A step: what was over stays so; else something more is put, or it is over. -/
def Step (st st' : By × Bool) (ok : Prop) (add : By) : Prop := (st.2 = true → st' = st) ∧ (st.2 = false → ok → st' = (st.1 ++ add, false)) ∧ (st.2 = false → ¬ ok → st'.2 = true)
theorem Step.then {a b c : By × Bool} {ok ok' : Prop} {x y : By} (h : Step a b ok x) (k : Step b c ok' y) : Step a c (ok ∧ ok') (x ++ y) := by
  refine ⟨fun e => ?_, fun e ⟨h1, h2⟩ => ?_, fun e hn => ?_⟩
  · have e1 := h.1 e
    rw [k.1 (by rw [e1]; exact e), e1]
  · have e1 := h.2.1 e h1
    rw [k.2.1 (by rw [e1]) h2, e1, List.append_assoc]
  · by_cases h1 : ok
    · have e1 := h.2.1 e h1
      exact k.2.2 (by rw [e1]) (fun h2 => hn ⟨h1, h2⟩)
    · have e1 := h.2.2 e h1
      rw [k.1 e1]; exact e1
theorem Step.iff {a b : By × Bool} {ok ok' : Prop} {x y : By} (h : Step a b ok x) (e : ok ↔ ok') (e2 : x = y) : Step a b ok' y := by
  subst e2; rwa [← propext e]
theorem step_num (two : Bool) (st : By × Bool) (n : Int) : Step st (pnS two st n) (pnB two n = true) (pnE two n) := by
  refine ⟨fun e => ?_, fun e h => ?_, fun e h => ?_⟩
  · unfold pnS; rw [if_pos e]
  · unfold pnS; rw [if_neg (by rw [e]; simp), if_pos h]
  · unfold pnS; rw [if_neg (by rw [e]; simp), if_neg h]
theorem step_text (st : By × Bool) (s : By) : Step st (pnT st s) (s.length < 256) (pT s) := by
  have hb : pnB false (s.length : Int) = true ↔ s.length < 256 := by unfold pnB; simp; omega
  obtain ⟨h1, h2, h3⟩ := step_num false st s.length
  refine ⟨fun e => ?_, fun e h => ?_, fun e h => ?_⟩
  · unfold pnT; rw [h1 e, if_pos e]
  · unfold pnT; rw [h2 e (hb.2 h), if_neg (by simp)]; simp [pnE, pT]
  · have := h3 e (fun k => h (hb.1 k))
    unfold pnT; rw [if_pos this, this]
theorem step_list {α : Type} (f : By × Bool → α → By × Bool) (ok : α → Prop) (p : α → By) (hf : ∀ st c, Step st (f st c) (ok c) (p c)) (l : List α) (st : By × Bool) : Step st (l.foldl f st) (∀ c ∈ l, ok c) (l.flatMap p) := by
  induction l generalizing st with
  | nil => exact ⟨fun _ => rfl, fun e _ => by obtain ⟨a, b⟩ := st; simp only at e; subst e; simp, fun _ h => absurd (by simp) h⟩
  | cons c t ih =>
    exact ((hf st c).then (ih (f st c))).iff (by simp) (by simp)
/-- A change, an act. -/
def wC (st : By × Bool) (c : Chg) : By × Bool := pnL true (pnL false st [c.1]) [c.2.1 + 1, c.2.2 + 1]
def wA4 (x : Act) : By × Bool := pnL false (pnT (pnT (pnL false ([], false) [x.kind]) x.one) x.two) [(x.chs.length : Int)]
def wA (x : Act) : By × Bool := x.chs.foldl wC (wA4 x)
theorem step_C (st : By × Bool) (c : Chg) : Step st (wC st c) (okC c) (pC c) := by
  refine (((step_num false st c.1).then (step_num true _ (c.2.1 + 1))).then (step_num true _ (c.2.2 + 1))).iff ?_ ?_
  · unfold pnB okC; simp; omega
  · unfold pnE pC; simp
theorem wA_step (x : Act) : Step ([], false) (wA x) (okA x) (pA x) := by
  refine (((((step_num false ([], false) x.kind).then (step_text _ x.one)).then (step_text _ x.two)).then (step_num false _ x.chs.length)).then (step_list wC okC pC step_C x.chs _)).iff ?_ ?_
  · unfold pnB okA
    simp only [decide_eq_true_eq, Bool.false_eq_true, if_false]
    constructor
    · rintro ⟨⟨⟨⟨h1, h2⟩, h3⟩, h4⟩, h5⟩
      exact ⟨h1, h2, h3, by omega, h5⟩
    · rintro ⟨h1, h2, h3, h4, h5⟩
      exact ⟨⟨⟨⟨h1, h2⟩, h3⟩, by omega⟩, h5⟩
  · unfold pnE pA; simp [pL]
theorem wA_ok {x : Act} (h : okA x) : wA x = (pA x, false) := by
  have := (wA_step x).2.1 rfl h
  simpa using this
theorem wA_bad {x : Act} (h : ¬ okA x) : (wA x).2 = true := (wA_step x).2.2 rfl h
theorem wC_take (st : By × Bool) (l : List Chg) (k : Nat) (h : k < l.length) : (l.take (k + 1)).foldl wC st = wC ((l.take k).foldl wC st) (l.getD k (0, 0, 0)) := by
  rw [List.take_succ_eq_append_getElem h, List.foldl_append]
  simp [List.getD, h]
theorem wC_len (st : By × Bool) (c : Chg) : (wC st c).1.length ≤ st.1.length + 6 := by
  have h1 := pnL_len true (pnL false st [c.1]) [c.2.1 + 1, c.2.2 + 1]
  have h2 := pnL_len false st [c.1]
  unfold wC
  simp at h1 h2
  omega
theorem wC_all (st : By × Bool) (l : List Chg) : (l.foldl wC st).1.length ≤ st.1.length + 6 * l.length := by
  induction l generalizing st with
  | nil => simp
  | cons c t ih =>
    have h1 := ih (wC st c)
    have h2 := wC_len st c
    rw [List.foldl_cons, List.length_cons]
    omega
/-- It never grows long. -/
theorem wA_len (x : Act) (k : Nat) : ((x.chs.take k).foldl wC (wA4 x)).1.length ≤ 10000 := by
  have h4 : (wA4 x).1.length ≤ 600 := by
    have h1 := pnL_len false (pnT (pnT (pnL false ([], false) [x.kind]) x.one) x.two) [(x.chs.length : Int)]
    have h2 := pnT_len (pnT (pnL false ([], false) [x.kind]) x.one) x.two
    have h3 := pnT_len (pnL false ([], false) [x.kind]) x.one
    have h5 := pnL_len false ([], false) [x.kind]
    unfold wA4
    simp only [List.length_singleton, List.length_nil] at h1 h2 h3 h5 ⊢
    omega
  by_cases ho : (wA4 x).2 = true
  · rw [(step_list wC okC pC step_C (x.chs.take k) (wA4 x)).1 ho]; omega
  · have hs : x.chs.length < 256 := pnS_small (st := pnT (pnT (pnL false ([], false) [x.kind]) x.one) x.two) (by rw [Bool.not_eq_true] at ho; exact ho)
    have h1 := wC_all (wA4 x) (x.chs.take k)
    have h2 : (x.chs.take k).length ≤ x.chs.length := by rw [List.length_take]; omega
    omega
def inI (n : Int) : Prop := -9223372036854775808 ≤ n ∧ n ≤ 9223372036854775807
end Go.Proofs.YtcgpgflnihjpiagGreat.M

/- Texts of bytes. -/
namespace Go.Proofs.YtcgpgflnihjpiagGreat.M
def str (l : By) : ByteArray := ⟨l.toArray⟩
theorem str_size (l : By) : (str l).size = l.length := by simp [str, ByteArray.size]
theorem str_take (l : By) (n : Nat) : (str l).extract 0 n = str (l.take n) := by
  apply ByteArray.ext
  rw [ByteArray.data_extract]
  simp [str]
theorem str_drop (l : By) (n : Nat) (m : Nat) (h : m = l.length) : (str l).extract n m = str (l.drop n) := by
  subst h
  apply ByteArray.ext
  rw [ByteArray.data_extract]
  simp [str]
  exact List.take_of_length_le (by simp)
end Go.Proofs.YtcgpgflnihjpiagGreat.M

/- What a slice of rows holds in memory, and the closed facts of the dump that all walks share. -/
namespace Go.Proofs.YtcgpgflnihjpiagGreat
open Go.RowKit

theorem ret_int {k : IntKind} {a b : Int} (h : a = b) : Ending.returned (.int k a) = .returned (.int k b) := by rw [h]

theorem ret_bool {a b : Bool} (h : a = b) : Ending.returned (.bool a) = .returned (.bool b) := by rw [h]

theorem ret_two {k : IntKind} {a a' : Int} {v : Value} (h : a = a') : Ending.returned (.tuple #[.int k a, v]) = .returned (.tuple #[.int k a', v]) := by rw [h]

/-- The slice at a, of n rows, holds the rows l. -/
def Rd (w : World) (a : Option Addr) (n : Nat) (l : List (Int × Int)) : Prop :=
  l.length = n ∧ (n = 0 ∨ ∃ b off, a = some ⟨b, off, none⟩ ∧ b < w.heap.size ∧ ∀ i, i < n → w.cell? ⟨b, off + i * 2, none⟩ = some (.int .i64 (l.getD i (0, 0)).1) ∧ w.cell? ⟨b, off + i * 2 + 1, none⟩ = some (.int .i64 (l.getD i (0, 0)).2))

theorem Rd.below {w w' : World} {a : Option Addr} {n : Nat} {l : List (Int × Int)} (h : Rd w a n l) {B : Nat} (hb : Below B w w') (hB : w.heap.size ≤ B) : Rd w' a n l := by
  obtain ⟨h1, h2⟩ := h
  refine ⟨h1, ?_⟩
  rcases h2 with h2 | ⟨b, off, ha, hlt, hc⟩
  · exact Or.inl h2
  · refine Or.inr ⟨b, off, ha, Nat.lt_of_lt_of_le hlt hb.size, fun i hi => ?_⟩
    rw [hb.cell (p := ⟨b, off + i * 2, none⟩) (by show b < B; omega), hb.cell (p := ⟨b, off + i * 2 + 1, none⟩) (by show b < B; omega)]
    exact hc i hi

/-- The two ways in which a slice of rows comes: none there, or an address that is known. -/
theorem Rd.cases {w : World} {a : Option Addr} {n : Nat} {l : List (Int × Int)} (h : Rd w a n l) : (n = 0 ∧ l = []) ∨ ∃ b off, a = some ⟨b, off, none⟩ ∧ 0 < n ∧ l.length = n ∧ b < w.heap.size ∧ ∀ i, i < n → w.cell? ⟨b, off + i * 2, none⟩ = some (.int .i64 (l.getD i (0, 0)).1) ∧ w.cell? ⟨b, off + i * 2 + 1, none⟩ = some (.int .i64 (l.getD i (0, 0)).2) := by
  obtain ⟨h1, h2⟩ := h
  by_cases hn : n = 0
  · exact Or.inl ⟨hn, List.eq_nil_of_length_eq_zero (by omega)⟩
  · rcases h2 with h2 | ⟨b, off, ha, hlt, hc⟩
    · exact absurd h2 hn
    · exact Or.inr ⟨b, off, ha, by omega, h1, hlt, hc⟩

end Go.Proofs.YtcgpgflnihjpiagGreat

/- Numbers in memory, and numbers appended to a row of the call's own. -/
namespace Go.Proofs.YtcgpgflnihjpiagGreat
open Go.RowKit

/-- The slice at a, of n numbers, holds the numbers l. -/
def Ri (w : World) (a : Option Addr) (n : Nat) (l : List Int) : Prop :=
  l.length = n ∧ (n = 0 ∨ ∃ b off, a = some ⟨b, off, none⟩ ∧ b < w.heap.size ∧ ∀ i, i < n → w.cell? ⟨b, off + i, none⟩ = some (.int .i64 (l.getD i 0)))
theorem Ri.below {w w' : World} {a : Option Addr} {n : Nat} {l : List Int} (h : Ri w a n l) {B : Nat} (hb : Below B w w') (hB : w.heap.size ≤ B) : Ri w' a n l := by
  obtain ⟨h1, h2⟩ := h
  refine ⟨h1, ?_⟩
  rcases h2 with h2 | ⟨b, off, ha, hlt, hc⟩
  · exact Or.inl h2
  · refine Or.inr ⟨b, off, ha, Nat.lt_of_lt_of_le hlt hb.size, fun i hi => ?_⟩
    rw [hb.cell (p := ⟨b, off + i, none⟩) (by show b < B; omega)]
    exact hc i hi
theorem Ri.cases {w : World} {a : Option Addr} {n : Nat} {l : List Int} (h : Ri w a n l) : (n = 0 ∧ l = []) ∨ ∃ b off, a = some ⟨b, off, none⟩ ∧ 0 < n ∧ l.length = n ∧ b < w.heap.size ∧ ∀ i, i < n → w.cell? ⟨b, off + i, none⟩ = some (.int .i64 (l.getD i 0)) := by
  obtain ⟨h1, h2⟩ := h
  by_cases hn : n = 0
  · exact Or.inl ⟨hn, List.eq_nil_of_length_eq_zero (by omega)⟩
  · rcases h2 with h2 | ⟨b, off, ha, hlt, hc⟩
    · exact absurd h2 hn
    · exact Or.inr ⟨b, off, ha, by omega, h1, hlt, hc⟩

theorem infoInt : (Tryz.prog.info? 3).map (fun i => (i.zero, i.size, i.bytes)) = some (some (.int .i64 0), 1, 8) := by kernel_rfl
theorem ri_one (w : World) (x : Int) : ∀ i, i < 1 → (w.alloc (.cells #[.int .i64 x] 3)).cell? ⟨w.heap.size, 0 + i, none⟩ = some (.int .i64 (([x] : List Int).getD i 0)) := by
  intro i hi
  obtain rfl : i = 0 := by omega
  simp [go_sem]
theorem ri_two (w : World) (x y : Int) : ∀ i, i < 2 → (w.alloc (.cells #[.int .i64 x, .int .i64 y] 3)).cell? ⟨w.heap.size, 0 + i, none⟩ = some (.int .i64 (([x, y] : List Int).getD i 0)) := by
  intro i hi
  match i, hi with
  | 0, _ => simp [go_sem]
  | 1, _ => simp [go_sem]

/-! ### numbers appended to a row of the call's own -/
def OwnI (w : World) (base : Nat) (v : Value) (l : List Int) : Prop := w.ownsRow base 3 1 v l.length (l.map (Value.int .i64))
theorem OwnI.nil (w : World) (base : Nat) : OwnI w base (.slice none 0 0) [] := World.ownsRow_nil _ _ _ _
theorem OwnI.mono {w : World} {base base' : Nat} {v : Value} {l : List Int} (h : OwnI w base v l) (hb : base' ≤ base) : OwnI w base' v l := by
  obtain ⟨h1, h2⟩ := h
  refine ⟨h1, ?_⟩
  rcases h2 with h2 | ⟨g, cap, cur, hv, hg, r⟩
  · exact Or.inl h2
  · exact Or.inr ⟨g, cap, cur, hv, Nat.le_trans hb hg, r⟩
theorem OwnI.ri {w : World} {base : Nat} {v : Value} {l : List Int} (h : OwnI w base v l) : ∃ a cap, v = .slice a l.length cap ∧ Ri w a l.length l ∧ l.length ≤ cap ∧ cap ≤ maxLen := by
  have h0 := h
  obtain ⟨h1, h2⟩ := h
  rcases h2 with ⟨rfl, hn⟩ | ⟨g, cap, cur, rfl, hb, hh, hc, hm, hs, hx⟩
  · exact ⟨none, 0, by rw [hn], ⟨rfl, Or.inl hn⟩, by omega, by simp [maxLen]⟩
  · refine ⟨_, cap, rfl, ⟨rfl, ?_⟩, hc, hm⟩
    have hlt : g < w.heap.size := (Array.getElem?_eq_some_iff.1 hh).1
    refine Or.inr ⟨g, 0, rfl, hlt, fun i hi => ?_⟩
    rw [World.ownsRow.cellAt h0 (0 + i) (by omega), Nat.zero_add]
    simp [List.getD, hi]
theorem append_ri {w : World} {ops : Array Oper} {rest : List Oper} {o : Oper} {a : Act} {Q : Exit → Act → World → Prop} (hgd : o.guard = none) (s x : Operand)
    (ho : o.op = .call { callee := .builtin .append, args := #[s, x], argTypes := #[24, 24] })
    (base : Nat) (v : Value) (l : List Int) (hs : a.eval s = v) (hown : OwnI w base v l)
    (b m c : Nat) (l2 : List Int) (hx : a.eval x = .slice (some ⟨b, 0, none⟩) m c) (hl2 : l2.length = m) (hc : ∀ i, i < m → w.cell? ⟨b, 0 + i, none⟩ = some (.int .i64 (l2.getD i 0)))
    (hbig : l.length + m ≤ 1000000) (hbase : base ≤ w.heap.size)
    (h : ∀ v' w', OwnI w' base v' (l ++ l2) → Below base w w' → (∀ k, k < w.heap.size → v.ownBlock ≠ some k → w'.heap[k]? = w.heap[k]?) → wpList Tryz.prog ops Q rest (a.put o.dst v') w') : wpList Tryz.prog ops Q (o :: rest) a w := by
  obtain ⟨i0, hi, hz0, hz1, hz2⟩ := info_parts infoInt
  have hnews : ∀ j u, (l2.map (Value.int .i64))[j]? = some u → w.cell? ((⟨b, 0, none⟩ : Addr).add j) = some u := by
    intro j u hj
    have hj2 : j < m := by have := (List.getElem?_eq_some_iff.1 hj).1; simpa [hl2] using this
    rw [Addr.add_lit, hc j hj2, ← hj]
    simp [List.getD, hl2, hj2]
  refine wpList_append_own _ hgd s x 24 ho base 3 i0 (.int .i64 0) 1 8 Tryz.underlying24 hi hz0 hz1 hz2 rfl (by decide) v l.length (l.map (Value.int .i64)) hs hown ⟨b, 0, none⟩ m c (l2.map (Value.int .i64)) hx (by simp [hl2]) hnews (by intro u hu; obtain ⟨y, _, rfl⟩ := List.mem_map.1 hu; rfl)
    (by simp only [maxLen]; omega) (by omega) hbase ?_
  intro v' w' h1 h2 _
  refine h v' w' ?_ ((Below.refl _ _).grown h2 hbase fun k hk => (World.ownsRow.lt hown k hk).1) (fun k hk hne => h2.block k hk (fun e => hne e.symm))
  unfold OwnI
  rw [List.map_append, List.length_append, hl2]
  exact h1
theorem OwnI.below {w w' : World} {base : Nat} {v : Value} {l : List Int} (h : OwnI w base v l) (hb : Below w.heap.size w w') : OwnI w' base v l := by
  obtain ⟨h1, h2⟩ := h
  refine ⟨h1, ?_⟩
  rcases h2 with h2 | ⟨g, cap, cur, hv, hg, hh, r⟩
  · exact Or.inl h2
  · exact Or.inr ⟨g, cap, cur, hv, hg, (hb.block g (Array.getElem?_eq_some_iff.1 hh).1).trans hh, r⟩

end Go.Proofs.YtcgpgflnihjpiagGreat

/- Regions that draw their order and whose last operation writes what the others read: a condition on the world that is kept till that operation. -/
namespace Go.Proofs.YtcgpgflnihjpiagGreat
open Go.RowKit

section
variable {P : Program} {ops : Array Oper} {Q : Exit → Act → World → Prop} {md : Region.Mode} {S : World → Prop} {L : Nat}

/-- Whatever order is picked from here on, and S holds behind every operation but number L. -/
def Till (P : Program) (md : Region.Mode) (ops : Array Oper) (Q : Exit → Act → World → Prop) (S : World → Prop) (L : Nat) : Nat → Array Bool → Act → World → Prop
  | 0, listed, a, w => Region.ready md ops listed = [] ∧ Q .normal a w
  | fuel + 1, listed, a, w =>
    (Region.ready md ops listed = [] → Q .normal a w) ∧
    ∀ i ∈ Region.ready md ops listed, wpOp P ops Q i (fun a' w' => (i ≠ L → listed.getD L true = false → S w') ∧ Till P md ops Q S L fuel (listed.setIfInBounds i true) a' w') a w
theorem wpAny_of_till : ∀ (fuel : Nat) (listed : Array Bool) (a : Act) (w : World), Till P md ops Q S L fuel listed a w → wpAny P md ops Q fuel listed a w
  | 0, _, _, _, h => h
  | fuel + 1, _, _, _, h => ⟨h.1, fun i hi => wpOp_mono (fun a' w' h' => wpAny_of_till fuel _ a' w' h'.2) (h.2 i hi)⟩

/-- Does operation L wait for operation i? -/
def waits (md : Region.Mode) (ops : Array Oper) (L i : Nat) : Bool := match ops[L]? with
  | none => false
  | some o => o.after.any fun e => Region.binds md e && e.on == i

/-- .. or for one that waits for it, and so on. -/
def waitsT (md : Region.Mode) (ops : Array Oper) : Nat → Nat → Nat → Bool
  | 0, L, i => waits md ops L i
  | n + 1, L, i => waits md ops L i || (match ops[L]? with
    | none => false
    | some o => o.after.any fun e => Region.binds md e && waitsT md ops n e.on i)
/-- All for which a listed one waits are listed. -/
def Closed (md : Region.Mode) (ops : Array Oper) (listed : Array Bool) : Prop := ∀ j o, ops[j]? = some o → listed.getD j false = true → ∀ e ∈ o.after, Region.binds md e = true → listed.getD e.on false = true
def closedB (md : Region.Mode) (ops : Array Oper) (listed : Array Bool) : Bool := (List.range ops.size).all fun j => match ops[j]? with
  | none => true
  | some o => !listed.getD j false || o.after.all fun e => !Region.binds md e || listed.getD e.on false
theorem closed_of {listed : Array Bool} (h : closedB md ops listed = true) : Closed md ops listed := by
  intro j o hj hl e he hb
  unfold closedB at h
  rw [List.all_eq_true] at h
  have hlt : j < ops.size := (Array.getElem?_eq_some_iff.1 hj).1
  have h1 := h j (List.mem_range.2 hlt)
  rw [hj] at h1
  simp only [hl, Bool.not_true, Bool.false_or] at h1
  rw [Array.all_eq_true_iff_forall_mem] at h1
  have h2 := h1 e he
  simpa [hb] using h2
theorem Closed.next {listed : Array Bool} (h : Closed md ops listed) {j : Nat} (hj : j ∈ Region.ready md ops listed) : Closed md ops (listed.setIfInBounds j true) := by
  intro k o hk hl e he hb
  by_cases hjk : j = k
  · subst hjk
    obtain ⟨_, oj, hoj, hall⟩ := mem_ready.1 hj
    rw [hk] at hoj
    cases hoj
    exact getD_set_true (hall e he hb)
  · rw [getD_set_ne false hjk] at hl
    exact getD_set_true (h k o hk hl e he hb)
theorem waitsT_not {listed : Array Bool} (hc : Closed md ops listed) {i : Nat} (hi : listed.getD i false = false) : ∀ (n L : Nat), waitsT md ops n L i = true → ∀ o, ops[L]? = some o → ¬ ∀ e ∈ o.after, Region.binds md e = true → listed.getD e.on false = true
  | 0, L, hw, o, ho, hall => by
    unfold waitsT waits at hw
    rw [ho] at hw
    simp only [Array.any_eq_true] at hw
    obtain ⟨x, hx, hb⟩ := hw
    simp only [Bool.and_eq_true, beq_iff_eq] at hb
    have := hall _ (Array.getElem_mem hx) hb.1
    rw [hb.2, hi] at this
    cases this
  | n + 1, L, hw, o, ho, hall => by
    unfold waitsT at hw
    rw [Bool.or_eq_true] at hw
    rcases hw with hw | hw
    · exact waitsT_not hc hi 0 L hw o ho hall
    · rw [ho] at hw
      simp only [Array.any_eq_true] at hw
      obtain ⟨x, hx, hb⟩ := hw
      simp only [Bool.and_eq_true] at hb
      have hl := hall _ (Array.getElem_mem hx) hb.1
      have ⟨o', ho'⟩ : ∃ o', ops[(o.after[x]).on]? = some o' := by
        cases ho' : ops[(o.after[x]).on]? with
        | some o' => exact ⟨o', rfl⟩
        | none =>
          exfalso
          have h2 := hb.2
          cases n with
          | zero => unfold waitsT waits at h2; rw [ho'] at h2; cases h2
          | succ n => unfold waitsT waits at h2; rw [ho'] at h2; cases h2
      exact waitsT_not hc hi n _ hb.2 o' ho' (fun e he hbe => hc _ o' ho' hl e he hbe)

theorem till_first {i : Nat} {oi : Oper} {v : Value} (hi : ops[i]? = some oi) (hiL : i ≠ L) (hw : waitsT md ops 9 L i = true) (hsel : ∀ (j : Nat) (o : Oper) cs b, ops[j]? = some o → o.op ≠ .select cs b)
    (hQ : ∀ c a w, Q (.panic c) (a.put oi.dst v) w → Q (.panic c) a w) :
    ∀ (fuel : Nat) (listed : Array Bool) (a : Act) (w : World),
      (∀ j oj, ops[j]? = some oj → j ≠ i → listed.getD j true = false → (∀ e ∈ oj.after, Region.binds md e = true → e.on ≠ i) → oi.apart ops oj = true) →
      i ∈ Region.ready md ops listed → Closed md ops listed → listed.getD L true = false → YieldsIf P ops S oi v a → S w →
      Till P md ops Q S L fuel (listed.setIfInBounds i true) (a.put oi.dst v) w → Till P md ops Q S L (fuel + 1) listed a w := by
  intro fuel
  induction fuel with
  | zero =>
    intro listed a w _ hr _ _ hy hS H
    refine ⟨fun h => (by rw [h] at hr; cases hr), fun j hj => ?_⟩
    by_cases hji : j = i
    · subst hji; exact hy.wpOp hi hS ⟨fun _ _ => hS, H⟩
    · have := ready_mono hj hji
      rw [H.1] at this
      cases this
  | succ fuel ih =>
    intro listed a w hfree hr hcl hLu hy hS H
    refine ⟨fun h => (by rw [h] at hr; cases hr), fun j hj => ?_⟩
    by_cases hji : j = i
    · subst hji; exact hy.wpOp hi hS ⟨fun _ _ => hS, H⟩
    · have h1 := H.2 j (ready_mono hj hji)
      obtain ⟨hjun, oj, hoj, hall⟩ := mem_ready.1 hj
      have hnot : ∀ e ∈ oj.after, Region.binds md e = true → e.on ≠ i := fun e he hb heq => by
        have h1 := hall e he hb
        have h0 := (mem_ready.1 hr).1
        rw [heq] at h1
        rcases Nat.lt_or_ge i listed.size with h' | h'
        · simp [h'] at h0 h1; rw [h0] at h1; cases h1
        · simp [Array.getElem?_eq_none h'] at h1
      have hiu : listed.getD i false = false := by
        have h0 := (mem_ready.1 hr).1
        rcases Nat.lt_or_ge i listed.size with h' | h'
        · simp [h'] at h0 ⊢; exact h0
        · simp [Array.getElem?_eq_none h'] at h0
      have hjL : j ≠ L := by
        intro e
        subst e
        exact waitsT_not hcl hiu 9 j hw oj hoj hall
      have h2 := wpOp_putIf hoj (hfree j oj hoj hji hjun hnot) (fun cs b => hsel i oi cs b hi) (fun cs b => hsel j oj cs b hoj) hQ hy h1
      have hfree' : ∀ k ok, ops[k]? = some ok → k ≠ i → (listed.setIfInBounds j true).getD k true = false →
          (∀ e ∈ ok.after, Region.binds md e = true → e.on ≠ i) → oi.apart ops ok = true := fun k ok hk hki hun hno => by
        refine hfree k ok hk hki ?_ hno
        by_cases hjk : j = k
        · subst hjk; exact hjun
        · rw [getD_set_ne true hjk] at hun; exact hun
      have hLi : (listed.setIfInBounds i true).getD L true = false := by rw [getD_set_ne true hiL]; exact hLu
      have hLj : (listed.setIfInBounds j true).getD L true = false := by rw [getD_set_ne true hjL]; exact hLu
      refine wpOp_mono (fun a' w' h3 => ⟨fun hjL _ => h3.2.1 hjL hLi, ih (listed.setIfInBounds j true) a' w' hfree' (ready_mono hr (Ne.symm hji)) (hcl.next hj) hLj h3.1 (h3.2.1 hjL hLi) ?_⟩) h2
      rw [Array.setIfInBounds_comm _ _ hji]
      exact h3.2.2
/-- .. where it looks at no memory. -/
theorem till_pure {i : Nat} {oi : Oper} {v : Value} (hi : ops[i]? = some oi) (hiL : i ≠ L) (hsel : ∀ (j : Nat) (o : Oper) cs b, ops[j]? = some o → o.op ≠ .select cs b)
    (hQ : ∀ c a w, Q (.panic c) (a.put oi.dst v) w → Q (.panic c) a w) :
    ∀ (fuel : Nat) (listed : Array Bool) (a : Act) (w : World),
      (∀ j oj, ops[j]? = some oj → j ≠ i → listed.getD j true = false → (∀ e ∈ oj.after, Region.binds md e = true → e.on ≠ i) → oi.apart ops oj = true) →
      i ∈ Region.ready md ops listed → YieldsIf P ops (fun _ => True) oi v a → (listed.getD L true = false → S w) →
      Till P md ops Q S L fuel (listed.setIfInBounds i true) (a.put oi.dst v) w → Till P md ops Q S L (fuel + 1) listed a w := by
  intro fuel
  induction fuel with
  | zero =>
    intro listed a w _ hr hy hS H
    refine ⟨fun h => (by rw [h] at hr; cases hr), fun j hj => ?_⟩
    by_cases hji : j = i
    · subst hji; exact hy.wpOp hi trivial ⟨fun _ h => hS h, H⟩
    · have := ready_mono hj hji
      rw [H.1] at this
      cases this
  | succ fuel ih =>
    intro listed a w hfree hr hy hS H
    refine ⟨fun h => (by rw [h] at hr; cases hr), fun j hj => ?_⟩
    by_cases hji : j = i
    · subst hji; exact hy.wpOp hi trivial ⟨fun _ h => hS h, H⟩
    · have h1 := H.2 j (ready_mono hj hji)
      obtain ⟨hjun, oj, hoj, hall⟩ := mem_ready.1 hj
      have hnot : ∀ e ∈ oj.after, Region.binds md e = true → e.on ≠ i := fun e he hb heq => by
        have h1 := hall e he hb
        have h0 := (mem_ready.1 hr).1
        rw [heq] at h1
        rcases Nat.lt_or_ge i listed.size with h' | h'
        · simp [h'] at h0 h1; rw [h0] at h1; cases h1
        · simp [Array.getElem?_eq_none h'] at h1
      have h2 := wpOp_putIf hoj (hfree j oj hoj hji hjun hnot) (fun cs b => hsel i oi cs b hi) (fun cs b => hsel j oj cs b hoj) hQ hy h1
      have hfree' : ∀ k ok, ops[k]? = some ok → k ≠ i → (listed.setIfInBounds j true).getD k true = false →
          (∀ e ∈ ok.after, Region.binds md e = true → e.on ≠ i) → oi.apart ops ok = true := fun k ok hk hki hun hno => by
        refine hfree k ok hk hki ?_ hno
        by_cases hjk : j = k
        · subst hjk; exact hjun
        · rw [getD_set_ne true hjk] at hun; exact hun
      have hLi : listed.getD L true = false → (listed.setIfInBounds i true).getD L true = false := fun h => by rw [getD_set_ne true hiL]; exact h
      refine wpOp_mono (fun a' w' h3 => ⟨fun hjL hu => h3.2.1 hjL (hLi hu), ih (listed.setIfInBounds j true) a' w' hfree' (ready_mono hr (Ne.symm hji)) h3.1 (fun hu => ?_) ?_⟩) h2
      · by_cases hjL : j = L
        · subst hjL
          rcases Nat.lt_or_ge j listed.size with h' | h'
          · simp [h'] at hu
          · simp [Array.getElem?_eq_none h'] at hjun
        · exact h3.2.1 hjL (hLi (by rw [getD_set_ne true hjL] at hu; exact hu))
      · rw [Array.setIfInBounds_comm _ _ hji]
        exact h3.2.2

/-- Take number i first. -/
theorem till_take (i : Nat) {oi : Oper} {v : Value} {fuel : Nat} {listed : Array Bool} {a : Act} {w : World} (hi : ops[i]? = some oi) (hiL : i ≠ L) (hw : (waitsT md ops 9 L i && closedB md ops listed) = true)
    (hs : Region.noSelect ops = true) (hf : Region.free md ops listed i = true) (hr : (Region.ready md ops listed).contains i = true) (hu : listed.getD L true = false)
    (hQ : ∀ c a w, Q (.panic c) (a.put oi.dst v) w → Q (.panic c) a w) (hy : YieldsIf P ops S oi v a) (hS : S w)
    (h : Till P md ops Q S L fuel (listed.setIfInBounds i true) (a.put oi.dst v) w) : Till P md ops Q S L (fuel + 1) listed a w :=
  till_first hi hiL (by simp only [Bool.and_eq_true] at hw; exact hw.1) (Region.noSelect_spec hs) hQ fuel listed a w (Region.free_spec hi hf) (by simpa using hr) (closed_of (by simp only [Bool.and_eq_true] at hw; exact hw.2)) hu hy hS h
/-- .. one that looks at no memory. -/
theorem till_go (i : Nat) {oi : Oper} {v : Value} {fuel : Nat} {listed : Array Bool} {a : Act} {w : World} (hi : ops[i]? = some oi) (hiL : i ≠ L)
    (hs : Region.noSelect ops = true) (hf : Region.free md ops listed i = true) (hr : (Region.ready md ops listed).contains i = true)
    (hQ : ∀ c a w, Q (.panic c) (a.put oi.dst v) w → Q (.panic c) a w) (hy : YieldsIf P ops (fun _ => True) oi v a) (hS : S w)
    (h : Till P md ops Q S L fuel (listed.setIfInBounds i true) (a.put oi.dst v) w) : Till P md ops Q S L (fuel + 1) listed a w :=
  till_pure hi hiL (Region.noSelect_spec hs) hQ fuel listed a w (Region.free_spec hi hf) (by simpa using hr) hy (fun _ => hS) h
/-- One alone may come up. -/
theorem till_step (i : Nat) {o : Oper} {fuel : Nat} {listed : Array Bool} {a : Act} {w : World} (ho : ops[i]? = some o) (hiL : i ≠ L) (hr : Region.ready md ops listed = [i])
    (h : ∀ K' : Act → World → Prop, Shut (∀ a w, S w → (S w → Till P md ops Q S L fuel (listed.setIfInBounds i true) a w) → K' a w) → if Region.wanted o (yielded ops a.tmps) = true then Oper.wp P o a w K' Q else K' (a.put o.dst undef) w) :
    Till P md ops Q S L (fuel + 1) listed a w := by
  refine ⟨fun e => (by rw [hr] at e; cases e), fun j hj => ?_⟩
  rw [hr] at hj
  obtain rfl : j = i := by simpa using hj
  exact wpOp_step ho (fun K' hK => h K' (fun a w hS hW => hK a w ⟨fun _ _ => hS, hW hS⟩))
/-- The last one. -/
theorem till_last {o : Oper} {listed : Array Bool} {a : Act} {w : World} (ho : ops[L]? = some o) (hr : Region.ready md ops listed = [L]) (hd : Region.ready md ops (listed.setIfInBounds L true) = [])
    (h : ∀ K' : Act → World → Prop, Shut (∀ a w, Q .normal a w → K' a w) → if Region.wanted o (yielded ops a.tmps) = true then Oper.wp P o a w K' Q else K' (a.put o.dst undef) w) (fuel : Nat) :
    Till P md ops Q S L (fuel + 1) listed a w := by
  refine ⟨fun e => (by rw [hr] at e; cases e), fun j hj => ?_⟩
  rw [hr] at hj
  obtain rfl : j = L := by simpa using hj
  refine wpOp_step ho (fun K' hK => h K' (fun a w hQ => hK a w ⟨fun e => absurd rfl e, ?_⟩))
  cases fuel with
  | zero => exact ⟨hd, hQ⟩
  | succ f => exact ⟨fun _ => hQ, by rw [hd]; simp⟩
/-- The beginning. -/
theorem wp_region_till (L : Nat) (S : World → Prop) {id : Nat} {a : Act} {w : World} (hm : P.follows .mixedOrders = true) (hS : S w.drew)
    (h : S w.drew → Till P .any ops Q S L ops.size (Array.replicate ops.size false) a w.drew) : (Code.region id ops true).wp P Q a w :=
  wp_region_any hm (wpAny_of_till _ _ _ _ (h hS))
end
end Go.Proofs.YtcgpgflnihjpiagGreat

/- Heads in memory; slices.IndexFunc, slices.ContainsFunc at heads. -/
namespace Go.Proofs.YtcgpgflnihjpiagGreat
open Go.RowKit

/-- The slice at a, of n heads, holds the heads H. -/
def Hs (w : World) (a : Option Addr) (n : Nat) (H : List M.Hd) : Prop :=
  H.length = n ∧ (n = 0 ∨ ∃ b off, a = some ⟨b, off, none⟩ ∧ b < w.heap.size ∧ ∀ i, i < n → w.cell? ⟨b, off + i * 2, none⟩ = some (.string (H.getD i M.hd0).1) ∧ w.cell? ⟨b, off + i * 2 + 1, none⟩ = some (.int .i64 (H.getD i M.hd0).2) ∧ (H.getD i M.hd0).1.size ≤ 9223372036854775807)
theorem Hs.below {w w' : World} {a : Option Addr} {n : Nat} {H : List M.Hd} (h : Hs w a n H) {B : Nat} (hb : Below B w w') (hB : w.heap.size ≤ B) : Hs w' a n H := by
  obtain ⟨h1, h2⟩ := h
  refine ⟨h1, ?_⟩
  rcases h2 with h2 | ⟨b, off, ha, hlt, hc⟩
  · exact Or.inl h2
  · refine Or.inr ⟨b, off, ha, Nat.lt_of_lt_of_le hlt hb.size, fun i hi => ?_⟩
    rw [hb.cell (p := ⟨b, off + i * 2, none⟩) (by show b < B; omega), hb.cell (p := ⟨b, off + i * 2 + 1, none⟩) (by show b < B; omega)]
    exact hc i hi
theorem Hs.cases {w : World} {a : Option Addr} {n : Nat} {H : List M.Hd} (h : Hs w a n H) : (n = 0 ∧ H = []) ∨ ∃ b off, a = some ⟨b, off, none⟩ ∧ 0 < n ∧ H.length = n ∧ b < w.heap.size ∧ ∀ i, i < n → w.cell? ⟨b, off + i * 2, none⟩ = some (.string (H.getD i M.hd0).1) ∧ w.cell? ⟨b, off + i * 2 + 1, none⟩ = some (.int .i64 (H.getD i M.hd0).2) ∧ (H.getD i M.hd0).1.size ≤ 9223372036854775807 := by
  obtain ⟨h1, h2⟩ := h
  by_cases hn : n = 0
  · exact Or.inl ⟨hn, List.eq_nil_of_length_eq_zero (by omega)⟩
  · rcases h2 with h2 | ⟨b, off, ha, hlt, hc⟩
    · exact absurd h2 hn
    · exact Or.inr ⟨b, off, ha, by omega, h1, hlt, hc⟩
theorem Hs.small {w : World} {a : Option Addr} {n : Nat} {H : List M.Hd} (h : Hs w a n H) : ∀ x ∈ H, x.1.size ≤ 9223372036854775807 := by
  intro x hx
  obtain ⟨i, hi, e⟩ := List.getElem_of_mem hx
  rcases h.cases with ⟨_, rfl⟩ | ⟨b, off, _, _, hl, _, hc⟩
  · simp at hi
  · have := (hc i (by omega)).2.2
    rw [show H.getD i M.hd0 = x by simp [List.getD, hi, e]] at this
    exact this

/-- What is asked of a function of heads that is handed on. -/
def Asks (g : Nat) (cs : List Value) (p : M.Hd → Bool) (H : List M.Hd) (w : World) : Prop :=
  ∀ W x, x ∈ H → Below w.heap.size w W → Calls Tryz.prog g (.agg #[.string x.1, .int .i64 x.2] :: cs).toArray W fun e w' => e = .returned (.bool (p x)) ∧ Below W.heap.size W w'

theorem index_none (fn : Value) (a : Option Addr) (cap : Nat) (w : World) :
    Calls Tryz.prog 59 #[.slice a 0 cap, fn] w fun e w' => e = .returned (.int .i64 (-1)) ∧ w' = w := by
  go_enter Tryz.func59, Tryz.ntmps59
  go_wp2
  refine wp_loop_rounds 1 ?_
  rw [rounds_succ]
  go_wp2
  go_ret
  exact ⟨rfl, rfl⟩

set_option maxHeartbeats 2000000 in
theorem index_some (g : Nat) (cs : List Value) (eg : ∀ args w, (callFunc g args).run Tryz.prog w = .ok (.enter g args) w) (p : M.Hd → Bool) (b off n cap : Nat) (H : List M.Hd) (w : World) (hm : n ≤ 9223372036854775807) (hl : H.length = n) (hB : b < w.heap.size)
    (hc : ∀ i, i < n → w.cell? ⟨b, off + i * 2, none⟩ = some (.string (H.getD i M.hd0).1) ∧ w.cell? ⟨b, off + i * 2 + 1, none⟩ = some (.int .i64 (H.getD i M.hd0).2) ∧ (H.getD i M.hd0).1.size ≤ 9223372036854775807) (hp : Asks g cs p H w) :
    Calls Tryz.prog 59 #[.slice (some ⟨b, off, none⟩) n cap, .func (.func g) #[] cs.toArray] w fun e w' => e = .returned (.int .i64 (M.idxF p H 0)) ∧ Below w.heap.size w w' := by
  have HC : Aside (∀ i, i < n → w.cell? ⟨b, off + i * 2, none⟩ = some (.string (H.getD i M.hd0).1) ∧ w.cell? ⟨b, off + i * 2 + 1, none⟩ = some (.int .i64 (H.getD i M.hd0).2) ∧ (H.getD i M.hd0).1.size ≤ 9223372036854775807) := hc
  have HL : Aside (H.length = n) := hl
  have HP : Aside (Asks g cs p H w) := hp
  clear hc hl hp
  go_enter Tryz.func59, Tryz.ntmps59
  go_wp2
  go_loopg [8] n (fun g i wr => ∃ (k : Nat), k + g = n ∧ i = .int .i64 k ∧ Below w.heap.size w wr ∧ Aside (M.idxF p (H.drop k) k = M.idxF p H 0))
  case atStart => exact ⟨0, by omega, rfl, Below.refl _ _, by simp [Aside]⟩
  case round =>
    obtain ⟨k, hk, rfl, hbel, A⟩ := hrel
    by_cases hlt : k < n
    · obtain ⟨x, hx⟩ : ∃ x, H.getD k M.hd0 = x := ⟨_, rfl⟩
      have c0 : wr.cell? ⟨b, off + k * 2, none⟩ = some (.string x.1) := by rw [hbel.cell (p := ⟨b, off + k * 2, none⟩) hB, (HC.out k hlt).1, hx]
      have c1 : wr.cell? ⟨b, off + k * 2 + 1, none⟩ = some (.int .i64 x.2) := by rw [hbel.cell (p := ⟨b, off + k * 2 + 1, none⟩) hB, (HC.out k hlt).2.1, hx]
      have hmem : x ∈ H := by rw [← hx]; have := HL.out; simp [List.getD, this, hlt]
      have LH : Hid (Calls Tryz.prog g (.agg #[.string x.1, .int .i64 x.2] :: cs).toArray wr fun e w' => e = .returned (.bool (p x)) ∧ Below wr.heap.size wr w') := HP.out wr x hmem hbel
      have HX : Aside (H.getD k M.hd0 = x) := hx
      obtain ⟨t, ht⟩ : ∃ t, p x = t := ⟨_, rfl⟩
      rw [ht] at LH
      have HT : Aside (p x = t) := ht
      have hki : (k : Int) < (n : Int) := by omega
      clear hx ht hmem
      cases t with
      | true =>
        go_wp2_with fail
        refine LH.out.mono ?_
        rintro e w1 ⟨rfl, hb1⟩
        go_wp2
        go_ret
        exact ⟨ret_int (by rw [← A.out, M.idxF_yes p H k M.hd0 (by rw [HL.out]; exact hlt) (by rw [HX.out]; exact HT.out)]), hbel.trans (hb1.mono hbel.size)⟩
      | false =>
        go_wp2_with fail
        refine LH.out.mono ?_
        rintro e w1 ⟨rfl, hb1⟩
        go_wp2
        go_roundg (gk - 1)
        case measure => omega
        case rel => exact ⟨k + 1, by omega, by go_num, hbel.trans (hb1.mono hbel.size), by unfold Aside; rw [← A.out, M.idxF_no p H k M.hd0 (by rw [HL.out]; exact hlt) (by rw [HX.out]; exact HT.out)]⟩
    · go_wp2
      go_ret
      exact ⟨ret_int (by rw [← A.out, M.idxF_end p H k (by rw [HL.out]; omega)]), hbel⟩
theorem index_any (g : Nat) (cs : List Value) (eg : ∀ args w, (callFunc g args).run Tryz.prog w = .ok (.enter g args) w) (p : M.Hd → Bool) (a : Option Addr) (n cap : Nat) (H : List M.Hd) (w : World) (h : Hs w a n H) (hm : n ≤ 9223372036854775807) (hp : Asks g cs p H w) :
    Calls Tryz.prog 59 #[.slice a n cap, .func (.func g) #[] cs.toArray] w fun e w' => e = .returned (.int .i64 (M.idxF p H 0)) ∧ Below w.heap.size w w' := by
  rcases h.cases with ⟨rfl, rfl⟩ | ⟨b, off, rfl, hn, hl, hB, hc⟩
  · refine (index_none _ a cap w).mono ?_
    rintro e w' ⟨rfl, rfl⟩
    exact ⟨rfl, Below.refl _ _⟩
  · exact index_some g cs eg p b off n cap H w hm hl hB hc hp
theorem hcontains_any (g : Nat) (cs : List Value) (eg : ∀ args w, (callFunc g args).run Tryz.prog w = .ok (.enter g args) w) (p : M.Hd → Bool) (a : Option Addr) (n cap : Nat) (H : List M.Hd) (w : World) (h : Hs w a n H) (hm : n ≤ 9223372036854775807) (hp : Asks g cs p H w) :
    Calls Tryz.prog 30 #[.slice a n cap, .func (.func g) #[] cs.toArray] w fun e w' => e = .returned (.bool (H.any p)) ∧ Below w.heap.size w w' := by
  have H1 : Hid (Calls Tryz.prog 59 #[.slice a n cap, .func (.func g) #[] cs.toArray] w fun e w' => e = .returned (.int .i64 (M.idxF p H 0)) ∧ Below w.heap.size w w') := index_any g cs eg p a n cap H w h hm hp
  obtain ⟨r, hr⟩ : ∃ r, M.idxF p H 0 = r := ⟨_, rfl⟩
  have h2 := M.idxF_neg p H 0
  rw [hr] at h2 H1
  have H2 : Hid (0 ≤ r ↔ H.any p = true) := h2
  clear hr h2 hp h
  go_enter Tryz.func30, Tryz.ntmps30
  go_wp2_with fail
  refine H1.out.mono ?_
  rintro e w' ⟨rfl, hb⟩
  go_wp2
  go_ret
  refine ⟨ret_bool ?_, hb⟩
  rw [Bool.eq_iff_iff, ← H2.out]
  simp
end Go.Proofs.YtcgpgflnihjpiagGreat
