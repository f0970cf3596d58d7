/- Math. -/
import Derived.KernelRfl
import Derived.PlainAid
import Derived.Lib.DecodeN
import Derived.Laws.RangeString
import Derived.Test.YtcgpgflnihjpiagGreatChecked
import Derived.WalkKit
import Derived.WalkSpells
import Derived.WalkLawsBesides
import Derived.Deep.LoopGhost
import Derived.Deep.QuietTactic
import Derived.BigQuiet
import Derived.Laws.AppendOwnNone
import Derived.Deep.RegionHeld
namespace Go.Proofs.YtcgpgflnihjpiagGreat.M
def bad (ah : Int) (r : Int × Int) : Bool := decide (r.1 ≤ ah ∨ 99 < r.1 ∨ r.2 < 0 ∨ 996 < r.2)
def chkFrom (ah : Int) : List (Int × Int) → Int
  | [] => 0
  | r :: t => if bad ah r = true then 1 else chkFrom r.1 t
def chk (l : List (Int × Int)) : Int := if 40 < l.length then 2 else chkFrom (-1) l
def prev (l : List (Int × Int)) : Nat → Int
  | 0 => -1
  | k + 1 => (l.getD k (0, 0)).1
theorem chk_many (l : List (Int × Int)) (h : 40 < l.length) : chk l = 2 := by unfold chk; rw [if_pos h]
theorem chk_few (l : List (Int × Int)) (h : l.length ≤ 40) : chk l = chkFrom (-1) l := by unfold chk; rw [if_neg (by omega)]
theorem drop_at (l : List (Int × Int)) (k : Nat) (h : k < l.length) : l.drop k = l.getD k (0, 0) :: l.drop (k + 1) := by
  rw [List.drop_eq_getElem_cons h]; simp [List.getD, h]
theorem chkFrom_bad (ah : Int) (l : List (Int × Int)) (k : Nat) (h : k < l.length) (x y : Int) (e : l.getD k (0, 0) = (x, y)) (hb : x ≤ ah ∨ 99 < x ∨ y < 0 ∨ 996 < y) : chkFrom ah (l.drop k) = 1 := by
  rw [drop_at l k h, e, chkFrom, if_pos (by simp [bad]; exact hb)]
theorem chkFrom_good (ah : Int) (l : List (Int × Int)) (k : Nat) (h : k < l.length) (x y : Int) (e : l.getD k (0, 0) = (x, y)) (h1 : ah < x) (h2 : x ≤ 99) (h3 : 0 ≤ y) (h4 : y ≤ 996) : chkFrom ah (l.drop k) = chkFrom x (l.drop (k + 1)) := by
  rw [drop_at l k h, e, chkFrom, if_neg (by simp [bad]; omega)]
theorem chkFrom_end (ah : Int) (l : List (Int × Int)) (k : Nat) (h : l.length ≤ k) : chkFrom ah (l.drop k) = 0 := by
  rw [List.drop_eq_nil_of_le h]; rfl
def Ok (l : List (Int × Int)) : Prop := (∀ r ∈ l, 0 ≤ r.1 ∧ r.1 ≤ 99 ∧ 0 ≤ r.2 ∧ r.2 ≤ 996) ∧ l.Pairwise (fun a b => a.1 < b.1)
theorem chkFrom_zero (ah : Int) (l : List (Int × Int)) : chkFrom ah l = 0 ↔ (∀ r ∈ l, ah < r.1 ∧ r.1 ≤ 99 ∧ 0 ≤ r.2 ∧ r.2 ≤ 996) ∧ l.Pairwise (fun a b => a.1 < b.1) := by
  induction l generalizing ah with
  | nil => simp [chkFrom]
  | cons r t ih =>
    rw [chkFrom]
    by_cases hb : bad ah r = true
    · rw [if_pos hb]
      constructor
      · intro h; omega
      · rintro ⟨h, _⟩
        have := h r (by simp)
        simp [bad] at hb
        omega
    · rw [if_neg hb, ih]
      have hg : ah < r.1 ∧ r.1 ≤ 99 ∧ 0 ≤ r.2 ∧ r.2 ≤ 996 := by simp [bad] at hb; omega
      constructor
      · rintro ⟨h1, h2⟩
        refine ⟨fun q hq => ?_, List.pairwise_cons.2 ⟨fun q hq => (h1 q hq).1, h2⟩⟩
        rcases List.mem_cons.1 hq with rfl | hq
        · exact hg
        · have := h1 q hq; omega
      · rintro ⟨h1, h2⟩
        have h3 := List.pairwise_cons.1 h2
        exact ⟨fun q hq => ⟨h3.1 q hq, (h1 q (by simp [hq])).2⟩, h3.2⟩
theorem chk_zero (l : List (Int × Int)) : chk l = 0 ↔ l.length ≤ 40 ∧ Ok l := by
  unfold chk
  by_cases h : 40 < l.length
  · rw [if_pos h]; constructor
    · intro h; omega
    · rintro ⟨h, _⟩; omega
  · rw [if_neg h, chkFrom_zero]
    constructor
    · rintro ⟨h1, h2⟩; exact ⟨by omega, fun r hr => by have := h1 r hr; omega, h2⟩
    · rintro ⟨_, h1, h2⟩; exact ⟨fun r hr => by have := h1 r hr; omega, h2⟩
theorem getD_mem (l : List (Int × Int)) (i : Nat) (h : i < l.length) : l.getD i (0, 0) ∈ l := by
  simp [List.getD, h]
theorem Ok.asc {l : List (Int × Int)} (h : Ok l) (i j : Nat) (hij : i < j) (hj : j < l.length) : (l.getD i (0, 0)).1 < (l.getD j (0, 0)).1 := by
  have := List.pairwise_iff_getElem.1 h.2 i j (by omega) hj hij
  simpa [List.getD, hj, Nat.lt_trans hij hj] using this
theorem Ok.mono {l : List (Int × Int)} (h : Ok l) (i j : Nat) (hij : i ≤ j) (hj : j < l.length) : (l.getD i (0, 0)).1 ≤ (l.getD j (0, 0)).1 := by
  by_cases e : i = j
  · rw [e]; omega
  · have := h.asc i j (by omega) hj; omega
theorem Ok.tail {r : Int × Int} {t : List (Int × Int)} (h : Ok (r :: t)) : Ok t := ⟨fun q hq => h.1 q (by simp [hq]), (List.pairwise_cons.1 h.2).2⟩
theorem Ok.head {r : Int × Int} {t : List (Int × Int)} (h : Ok (r :: t)) : ∀ q ∈ t, r.1 < q.1 := (List.pairwise_cons.1 h.2).1
def find (key : Int) : List (Int × Int) → Int
  | [] => -1
  | r :: t => if r.1 = key then r.2 else find key t
theorem find_none (key : Int) (l : List (Int × Int)) (h : ∀ r ∈ l, r.1 ≠ key) : find key l = -1 := by
  induction l with
  | nil => rfl
  | cons r t ih => rw [find, if_neg (h r (by simp)), ih fun q hq => h q (by simp [hq])]
theorem find_mem (key : Int) (l : List (Int × Int)) (hk : l.Pairwise (fun a b => a.1 < b.1)) (r : Int × Int) (hr : r ∈ l) (e : r.1 = key) : find key l = r.2 := by
  induction l with
  | nil => simp at hr
  | cons q t ih =>
    rw [find]
    have h2 := List.pairwise_cons.1 hk
    rcases List.mem_cons.1 hr with rfl | hr
    · rw [if_pos e]
    · rw [if_neg (by have := h2.1 r hr; omega), ih h2.2 hr]
def At (l : List (Int × Int)) (key : Int) (k : Nat) (t : Bool) : Prop :=
  k ≤ l.length ∧ (∀ i, i < k → (l.getD i (0, 0)).1 < key) ∧ (k < l.length → key ≤ (l.getD k (0, 0)).1) ∧ (t = true ↔ k < l.length ∧ (l.getD k (0, 0)).1 = key)
theorem At.yes {l : List (Int × Int)} {key : Int} {k : Nat} (h : At l key k true) : k < l.length ∧ (l.getD k (0, 0)).1 = key := h.2.2.2.1 rfl
theorem At.find_yes {l : List (Int × Int)} {key : Int} {k : Nat} (h : At l key k true) (ok : Ok l) : find key l = (l.getD k (0, 0)).2 :=
  find_mem key l ok.2 _ (getD_mem l k h.yes.1) h.yes.2
theorem mem_getD {l : List (Int × Int)} {r : Int × Int} (h : r ∈ l) : ∃ i, i < l.length ∧ l.getD i (0, 0) = r := by
  obtain ⟨i, hi, e⟩ := List.mem_iff_getElem.1 h
  exact ⟨i, hi, by simp [List.getD, hi, e]⟩
theorem At.find_no {l : List (Int × Int)} {key : Int} {k : Nat} (h : At l key k false) (ok : Ok l) : find key l = -1 := by
  refine find_none key l fun r hr e => ?_
  obtain ⟨i, hi, rfl⟩ := mem_getD hr
  by_cases hik : i < k
  · have := h.2.1 i hik; omega
  · have h3 := h.2.2.1 (by omega)
    have h4 := ok.mono k i (by omega) hi
    have h5 : (l.getD k (0, 0)).1 = key := by omega
    have := h.2.2.2.2 ⟨by omega, h5⟩
    simp at this
def asked (l : List (Int × Int)) (key : Int) : Int := if chk l ≠ 0 then chk l else if key < 0 ∨ 99 < key then 3 else 0
def findV (l : List (Int × Int)) (key : Int) : Int := if asked l key = 0 then find key l else 0
theorem asked_bad {l : List (Int × Int)} {key : Int} (h : chk l ≠ 0) : asked l key = chk l := by unfold asked; rw [if_pos h]
theorem asked_range {l : List (Int × Int)} {key : Int} (h : chk l = 0) (hk : key < 0 ∨ 99 < key) : asked l key = 3 := by unfold asked; rw [if_neg (by omega), if_pos hk]
theorem asked_ok {l : List (Int × Int)} {key : Int} (h : chk l = 0) (hk : 0 ≤ key) (hk2 : key ≤ 99) : asked l key = 0 := by unfold asked; rw [if_neg (by omega), if_neg (by omega)]
theorem asked_zero {l : List (Int × Int)} {key : Int} (h : asked l key = 0) : chk l = 0 ∧ 0 ≤ key ∧ key ≤ 99 := by
  unfold asked at h
  split at h
  · omega
  · split at h
    · omega
    · omega
theorem findV_no {l : List (Int × Int)} {key : Int} (h : asked l key ≠ 0) : findV l key = 0 := by unfold findV; rw [if_neg h]
theorem findV_ok {l : List (Int × Int)} {key : Int} (h : asked l key = 0) : findV l key = find key l := by unfold findV; rw [if_pos h]
theorem find_step (key : Int) (l : List (Int × Int)) (k : Nat) (h : k < l.length) (x y : Int) (e : l.getD k (0, 0) = (x, y)) (hx : x ≠ key) : find key (l.drop k) = find key (l.drop (k + 1)) := by
  rw [drop_at l k h, e, find, if_neg hx]
theorem find_here (key : Int) (l : List (Int × Int)) (k : Nat) (h : k < l.length) (x y : Int) (e : l.getD k (0, 0) = (x, y)) (hx : x = key) : find key (l.drop k) = y := by
  rw [drop_at l k h, e, find, if_pos hx]
theorem find_end (key : Int) (l : List (Int × Int)) (k : Nat) (h : l.length ≤ k) : find key (l.drop k) = -1 := by
  rw [List.drop_eq_nil_of_le h]; rfl
end Go.Proofs.YtcgpgflnihjpiagGreat.M

/- Dag0. -/
namespace Go.Proofs.YtcgpgflnihjpiagGreat.M
abbrev Com := List (Int × Int) × List Int
def ris (n : Nat) (ah : Int) : List Int → Bool
  | [] => true
  | p :: t => decide (ah < p ∧ p < (n : Int)) && ris n p t
def pr (n : Nat) (ps : List Int) : Bool := decide (ps.length ≤ 2) && ris n (-1) ps
def dchkF (n : Nat) : List Com → Int
  | [] => 0
  | c :: t => if chk c.1 ≠ 0 then chk c.1 else if pr n c.2 = true then dchkF (n + 1) t else 1
def dchk (L : List Com) : Int := if 14 < L.length then 2 else dchkF 0 L
theorem dchk_many (L : List Com) (h : 14 < L.length) : dchk L = 2 := by unfold dchk; rw [if_pos h]
theorem dchk_few (L : List Com) (h : L.length ≤ 14) : dchk L = dchkF 0 L := by unfold dchk; rw [if_neg (by omega)]
theorem idrop (l : List Int) (k : Nat) (h : k < l.length) : l.drop k = l.getD k 0 :: l.drop (k + 1) := by
  rw [List.drop_eq_getElem_cons h]; simp [List.getD, h]
theorem cdrop (l : List Com) (k : Nat) (h : k < l.length) : l.drop k = l.getD k ([], []) :: l.drop (k + 1) := by
  rw [List.drop_eq_getElem_cons h]; simp [List.getD, h]
theorem ris_bad (n : Nat) (ah : Int) (l : List Int) (k : Nat) (h : k < l.length) (p : Int) (e : l.getD k 0 = p) (hb : p ≤ ah ∨ (n : Int) ≤ p) : ris n ah (l.drop k) = false := by
  rw [idrop l k h, e, ris, decide_eq_false (by omega)]; rfl
theorem ris_good (n : Nat) (ah : Int) (l : List Int) (k : Nat) (h : k < l.length) (p : Int) (e : l.getD k 0 = p) (h1 : ah < p) (h2 : p < (n : Int)) : ris n ah (l.drop k) = ris n p (l.drop (k + 1)) := by
  rw [idrop l k h, e, ris, decide_eq_true ⟨h1, h2⟩]; rfl
theorem ris_end (n : Nat) (ah : Int) (l : List Int) (k : Nat) (h : l.length ≤ k) : ris n ah (l.drop k) = true := by
  rw [List.drop_eq_nil_of_le h]; rfl
theorem ris_mem {n : Nat} {ah : Int} {l : List Int} (h : ris n ah l = true) : ∀ p ∈ l, ah < p ∧ p < (n : Int) := by
  induction l generalizing ah with
  | nil => simp
  | cons q t ih =>
    simp only [ris, Bool.and_eq_true, decide_eq_true_eq] at h
    intro p hp
    rcases List.mem_cons.1 hp with rfl | hp
    · exact h.1
    · have := ih h.2 p hp; omega
theorem pr_long (n : Nat) (l : List Int) (h : 2 < l.length) : pr n l = false := by unfold pr; rw [decide_eq_false (by omega)]; rfl
theorem pr_short (n : Nat) (l : List Int) (h : l.length ≤ 2) : pr n l = ris n (-1) l := by unfold pr; rw [decide_eq_true h]; rfl
theorem dchkF_bad (n : Nat) (L : List Com) (h : n < L.length) (c : Com) (e : L.getD n ([], []) = c) (hb : chk c.1 ≠ 0) : dchkF n (L.drop n) = chk c.1 := by
  rw [cdrop L n h, e, dchkF, if_pos hb]
theorem dchkF_form (n : Nat) (L : List Com) (h : n < L.length) (c : Com) (e : L.getD n ([], []) = c) (h1 : chk c.1 = 0) (hb : pr n c.2 = false) : dchkF n (L.drop n) = 1 := by
  rw [cdrop L n h, e, dchkF, if_neg (by omega), if_neg (by simp [hb])]
theorem dchkF_good (n : Nat) (L : List Com) (h : n < L.length) (c : Com) (e : L.getD n ([], []) = c) (h1 : chk c.1 = 0) (hb : pr n c.2 = true) : dchkF n (L.drop n) = dchkF (n + 1) (L.drop (n + 1)) := by
  rw [cdrop L n h, e, dchkF, if_neg (by omega), if_pos hb]
theorem dchkF_end (n : Nat) (L : List Com) (h : L.length ≤ n) : dchkF n (L.drop n) = 0 := by
  rw [List.drop_eq_nil_of_le h]; rfl
def Right (L : List Com) : Prop := ∀ i, i < L.length → chk (L.getD i ([], [])).1 = 0 ∧ (L.getD i ([], [])).2.length ≤ 2 ∧ ∀ p ∈ (L.getD i ([], [])).2, 0 ≤ p ∧ p < (i : Int)
theorem dchkF_right (n : Nat) (L : List Com) (h : dchkF n L = 0) : ∀ i, i < L.length → chk (L.getD i ([], [])).1 = 0 ∧ (L.getD i ([], [])).2.length ≤ 2 ∧ ∀ p ∈ (L.getD i ([], [])).2, 0 ≤ p ∧ p < ((n + i : Nat) : Int) := by
  induction L generalizing n with
  | nil => intro i hi; simp at hi
  | cons c t ih =>
    rw [dchkF] at h
    by_cases h1 : chk c.1 = 0
    · rw [if_neg (by omega)] at h
      by_cases h2 : pr n c.2 = true
      · rw [if_pos h2] at h
        intro i hi
        cases i with
        | zero =>
          have h3 := h2
          unfold pr at h3
          simp only [Bool.and_eq_true, decide_eq_true_eq] at h3
          refine ⟨h1, h3.1, fun p hp => ?_⟩
          have := ris_mem h3.2 p hp
          simp only [Nat.add_zero]
          omega
        | succ i =>
          have := ih (n + 1) h i (by simpa using hi)
          rw [show n + (i + 1) = n + 1 + i by omega]
          simpa [List.getD] using this
      · rw [if_neg h2] at h; omega
    · rw [if_pos h1] at h; omega
theorem dchk_zero {L : List Com} (h : dchk L = 0) : L.length ≤ 14 ∧ Right L := by
  unfold dchk at h
  by_cases h1 : 14 < L.length
  · rw [if_pos h1] at h; omega
  · rw [if_neg h1] at h
    refine ⟨by omega, fun i hi => ?_⟩
    have := dchkF_right 0 L h i hi
    simpa using this
def mark (m : List Bool) (ps : List Int) : List Bool := ps.foldl (fun m p => m.set p.toNat true) m
theorem mark_len (m : List Bool) (ps : List Int) : (mark m ps).length = m.length := by
  unfold mark
  induction ps generalizing m with
  | nil => rfl
  | cons p t ih => rw [List.foldl_cons, ih]; simp
theorem mark_take (m : List Bool) (ps : List Int) (k : Nat) (h : k < ps.length) : mark m (ps.take (k + 1)) = (mark m (ps.take k)).set (ps.getD k 0).toNat true := by
  unfold mark
  rw [List.take_succ_eq_append_getElem h, List.foldl_append]
  simp [List.getD, h]
theorem set_get_bool (m : List Bool) (i j : Nat) (h : i < m.length) : (m.set i true).getD j false = true ↔ i = j ∨ m.getD j false = true := by
  simp only [List.getD, List.getElem?_set]
  by_cases e : i = j
  · subst e; simp [h]
  · simp [e]
theorem mark_get (m : List Bool) (ps : List Int) (h : ∀ p ∈ ps, p.toNat < m.length) (j : Nat) : (mark m ps).getD j false = true ↔ m.getD j false = true ∨ ∃ p ∈ ps, p.toNat = j := by
  induction ps generalizing m with
  | nil => simp [mark]
  | cons p t ih =>
    have e : mark m (p :: t) = mark (m.set p.toNat true) t := rfl
    rw [e, ih (m.set p.toNat true) (fun q hq => by simpa using h q (by simp [hq])), set_get_bool m _ _ (h p (by simp))]
    constructor
    · rintro ((h1 | h1) | ⟨q, hq, h1⟩)
      · exact Or.inr ⟨p, by simp, h1⟩
      · exact Or.inl h1
      · exact Or.inr ⟨q, by simp [hq], h1⟩
    · rintro (h1 | ⟨q, hq, h1⟩)
      · exact Or.inl (Or.inr h1)
      · rcases List.mem_cons.1 hq with rfl | hq
        · exact Or.inl (Or.inl h1)
        · exact Or.inr ⟨q, hq, h1⟩
def aboveF (L : List Com) : Nat → List Bool → List Bool
  | 0, m => m
  | k + 1, m => aboveF L k (if m.getD k false = true then mark m (L.getD k ([], [])).2 else m)
def above (L : List Com) (n : Nat) : List Bool := aboveF L (n + 1) ((List.replicate L.length false).set n true)
theorem aboveF_len (L : List Com) (k : Nat) (m : List Bool) : (aboveF L k m).length = m.length := by
  induction k generalizing m with
  | zero => rfl
  | succ k ih => rw [aboveF, ih]; split <;> simp [mark_len]
theorem above_len (L : List Com) (n : Nat) : (above L n).length = L.length := by unfold above; rw [aboveF_len]; simp
inductive Anc (L : List Com) (n : Nat) : Nat → Prop
  | self : Anc L n n
  | up {j k : Nat} {p : Int} : Anc L n j → p ∈ (L.getD j ([], [])).2 → p.toNat = k → Anc L n k
theorem Anc.trans {L : List Com} {a b c : Nat} (h : Anc L a b) (k : Anc L b c) : Anc L a c := by
  induction k with
  | self => exact h
  | up _ h2 h3 ih => exact .up ih h2 h3
theorem Right.par {L : List Com} (R : Right L) {j : Nat} {p : Int} (hp : p ∈ (L.getD j ([], [])).2) : p.toNat < j ∧ j < L.length := by
  by_cases hj : j < L.length
  · have := (R j hj).2.2 p hp; omega
  · rw [show L.getD j ([], []) = ([], []) by simp [List.getD, hj]] at hp
    simp at hp
theorem Anc.last {L : List Com} {n k : Nat} (h : Anc L n k) (hne : k ≠ n) : ∃ j p, Anc L n j ∧ p ∈ (L.getD j ([], [])).2 ∧ p.toNat = k := by
  cases h with
  | self => exact absurd rfl hne
  | up h1 h2 h3 => exact ⟨_, _, h1, h2, h3⟩
theorem aboveF_iff {L : List Com} (R : Right L) (n : Nat) (k : Nat) (m : List Bool) (hm : m.length = L.length) (hk : k ≤ L.length)
    (h1 : ∀ j, m.getD j false = true → Anc L n j) (h2 : m.getD n false = true)
    (h3 : ∀ j p, k ≤ j → m.getD j false = true → p ∈ (L.getD j ([], [])).2 → m.getD p.toNat false = true) (i : Nat) :
    (aboveF L k m).getD i false = true ↔ Anc L n i := by
  induction k generalizing m with
  | zero =>
    rw [aboveF]
    refine ⟨h1 i, fun h => ?_⟩
    induction h with
    | self => exact h2
    | up _ hp e ih => rw [← e]; exact h3 _ _ (by omega) ih hp
  | succ k ih =>
    rw [aboveF]
    by_cases hb : m.getD k false = true
    · rw [if_pos hb]
      have hps : ∀ p ∈ (L.getD k ([], [])).2, p.toNat < m.length := fun p hp => by have := R.par hp; omega
      have G := mark_get m (L.getD k ([], [])).2 hps
      refine ih (mark m (L.getD k ([], [])).2) (by rw [mark_len]; exact hm) (by omega) (fun j hj => ?_) ((G n).2 (Or.inl h2)) (fun j p hj hmj hp => ?_)
      · rcases (G j).1 hj with h | ⟨p, hp, e⟩
        · exact h1 j h
        · exact .up (h1 k hb) hp e
      · rcases (G j).1 hmj with h | ⟨q, hq, e⟩
        · by_cases ek : j = k
          · subst ek; exact (G _).2 (Or.inr ⟨p, hp, rfl⟩)
          · exact (G _).2 (Or.inl (h3 j p (by omega) h hp))
        · have := R.par hq; omega
    · rw [if_neg hb]
      refine ih m hm (by omega) h1 h2 (fun j p hj hmj hp => ?_)
      by_cases ek : j = k
      · subst ek; exact absurd hmj hb
      · exact h3 j p (by omega) hmj hp
theorem above_iff {L : List Com} (R : Right L) {n : Nat} (hn : n < L.length) (i : Nat) : (above L n).getD i false = true ↔ Anc L n i := by
  have S := set_get_bool (List.replicate L.length false) n
  have Z : ∀ j, (List.replicate L.length false).getD j false = false := fun j => by
    simp only [List.getD, List.getElem?_replicate]; split <;> rfl
  unfold above
  refine aboveF_iff R n (n + 1) _ (by simp) (by omega) (fun j hj => ?_) ((S n (by simpa using hn)).2 (Or.inl rfl)) (fun j p hj hmj _ => ?_) i
  · rcases (S j (by simpa using hn)).1 hj with rfl | h
    · exact .self
    · rw [Z] at h; simp at h
  · rcases (S j (by simpa using hn)).1 hmj with rfl | h
    · omega
    · rw [Z] at h; simp at h
def sel (p : Nat → Bool) : Nat → List Int
  | 0 => []
  | k + 1 => if p k = true then sel p k ++ [(k : Int)] else sel p k
theorem sel_congr (p q : Nat → Bool) (n : Nat) (h : ∀ k, k < n → p k = q k) : sel p n = sel q n := by
  induction n with
  | zero => rfl
  | succ n ih => rw [sel, sel, h n (by omega), ih fun k hk => h k (by omega)]
theorem sel_len (p : Nat → Bool) (n : Nat) : (sel p n).length ≤ n := by
  induction n with
  | zero => simp [sel]
  | succ n ih => rw [sel]; split
                 · simp; omega
                 · omega
theorem mem_sel (p : Nat → Bool) (n : Nat) (x : Int) : x ∈ sel p n ↔ ∃ k : Nat, k < n ∧ p k = true ∧ x = k := by
  induction n with
  | zero => simp [sel]
  | succ n ih =>
    rw [sel]
    split
    · rename_i h
      rw [List.mem_append, ih, List.mem_singleton]
      constructor
      · rintro (⟨k, h1, h2, h3⟩ | h1)
        · exact ⟨k, by omega, h2, h3⟩
        · exact ⟨n, by omega, h, h1⟩
      · rintro ⟨k, h1, h2, h3⟩
        by_cases e : k = n
        · subst e; exact Or.inr h3
        · exact Or.inl ⟨k, by omega, h2, h3⟩
    · rename_i h
      rw [ih]
      constructor
      · rintro ⟨k, h1, h2, h3⟩; exact ⟨k, by omega, h2, h3⟩
      · rintro ⟨k, h1, h2, h3⟩
        by_cases e : k = n
        · subst e; exact absurd h2 h
        · exact ⟨k, by omega, h2, h3⟩
def both (L : List Com) (a b k : Nat) : Bool := (above L a).getD k false && (above L b).getD k false
def furF (L : List Com) (bo : Nat → Bool) : Nat → List Bool
  | 0 => List.replicate L.length false
  | k + 1 => if bo k = true then mark (furF L bo k) (L.getD k ([], [])).2 else furF L bo k
theorem furF_len (L : List Com) (bo : Nat → Bool) (k : Nat) : (furF L bo k).length = L.length := by
  induction k with
  | zero => simp [furF]
  | succ k ih => rw [furF]; split
                 · rw [mark_len, ih]
                 · exact ih
theorem furF_iff {L : List Com} (R : Right L) (bo : Nat → Bool) (k : Nat) (i : Nat) : (furF L bo k).getD i false = true ↔ ∃ j p, j < k ∧ bo j = true ∧ p ∈ (L.getD j ([], [])).2 ∧ p.toNat = i := by
  induction k with
  | zero =>
    rw [furF]
    constructor
    · intro h
      simp only [List.getD, List.getElem?_replicate] at h
      split at h <;> simp at h
    · rintro ⟨j, p, h, _⟩; omega
  | succ k ih =>
    rw [furF]
    split
    · rename_i hb
      rw [mark_get _ _ (fun p hp => by rw [furF_len]; have := R.par hp; omega), ih]
      constructor
      · rintro (⟨j, p, h1, h2⟩ | ⟨p, hp, e⟩)
        · exact ⟨j, p, by omega, h2⟩
        · exact ⟨k, p, by omega, hb, hp, e⟩
      · rintro ⟨j, p, h1, h2, h3, h4⟩
        by_cases e : j = k
        · subst e; exact Or.inr ⟨p, h3, h4⟩
        · exact Or.inl ⟨j, p, by omega, h2, h3, h4⟩
    · rename_i hb
      rw [ih]
      constructor
      · rintro ⟨j, p, h1, h2⟩; exact ⟨j, p, by omega, h2⟩
      · rintro ⟨j, p, h1, h2, h3, h4⟩
        by_cases e : j = k
        · subst e; exact absurd h2 hb
        · exact ⟨j, p, by omega, h2, h3, h4⟩
def isBase (L : List Com) (a b k : Nat) : Bool := both L a b k && !((furF L (both L a b) L.length).getD k false)
def bases (L : List Com) (a b : Nat) : List Int := sel (isBase L a b) L.length
theorem both_iff {L : List Com} (R : Right L) {a b : Nat} (ha : a < L.length) (hb : b < L.length) (k : Nat) : both L a b k = true ↔ Anc L a k ∧ Anc L b k := by
  unfold both; rw [Bool.and_eq_true, above_iff R ha, above_iff R hb]
theorem further_iff {L : List Com} (R : Right L) {a b : Nat} (ha : a < L.length) (hb : b < L.length) (k : Nat) :
    (furF L (both L a b) L.length).getD k false = true ↔ ∃ i, k < i ∧ i < L.length ∧ both L a b i = true ∧ (above L i).getD k false = true := by
  rw [furF_iff R]
  constructor
  · rintro ⟨j, p, h1, h2, h3, h4⟩
    have := R.par h3
    exact ⟨j, by omega, h1, h2, (above_iff R h1 k).2 (.up .self h3 h4)⟩
  · rintro ⟨i, h1, h2, h3, h4⟩
    obtain ⟨j, p, hj, hp, e⟩ := ((above_iff R h2 k).1 h4).last (by omega)
    have hb2 := (both_iff R ha hb i).1 h3
    exact ⟨j, p, (R.par hp).2, (both_iff R ha hb j).2 ⟨hb2.1.trans hj, hb2.2.trans hj⟩, hp, e⟩
theorem isBase_iff {L : List Com} (R : Right L) {a b : Nat} (ha : a < L.length) (hb : b < L.length) (k : Nat) :
    isBase L a b k = true ↔ both L a b k = true ∧ ∀ i, k < i → i < L.length → both L a b i = true → (above L i).getD k false = false := by
  unfold isBase
  rw [Bool.and_eq_true]
  refine and_congr_right fun _ => ?_
  have h := further_iff R ha hb k
  constructor
  · intro hn i h1 h2 h3
    by_cases h4 : (above L i).getD k false = true
    · rw [h.2 ⟨i, h1, h2, h3, h4⟩] at hn; simp at hn
    · simpa using h4
  · intro hn
    by_cases h5 : (furF L (both L a b) L.length).getD k false = true
    · obtain ⟨i, h1, h2, h3, h4⟩ := h.1 h5
      rw [hn i h1 h2 h3] at h4; simp at h4
    · simpa using h5
end Go.Proofs.YtcgpgflnihjpiagGreat.M

/- Repo0. -/
namespace Go.Proofs.YtcgpgflnihjpiagGreat.M
open Go.PlainAid
abbrev Hd := ByteArray × Int
def hd0 : Hd := (ByteArray.empty, 0)
def lets (s : ByteArray) (k : Nat) : Bool := decide (∀ i, i < s.size → k ≤ i → 97 ≤ bt s i ∧ bt s i ≤ 122)
theorem lets_end (s : ByteArray) (k : Nat) (h : s.size ≤ k) : lets s k = true := by
  unfold lets; rw [decide_eq_true]; intro i h1 h2; omega
theorem lets_bad (s : ByteArray) (k : Nat) (h : k < s.size) (hb : bt s k < 97 ∨ 122 < bt s k) : lets s k = false := by
  unfold lets; rw [decide_eq_false]; intro hh; have := hh k h (Nat.le_refl _); omega
theorem lets_good (s : ByteArray) (k : Nat) (h1 : 97 ≤ bt s k) (h2 : bt s k ≤ 122) : lets s k = lets s (k + 1) := by
  unfold lets
  rw [decide_eq_decide]
  constructor
  · intro h i a b; exact h i a (by omega)
  · intro h i a b
    by_cases e : i = k
    · subst e; exact ⟨h1, h2⟩
    · exact h i a (by omega)
def nam (s : ByteArray) : Bool := decide (0 < s.size) && (decide (s.size ≤ 8) && lets s 0)
theorem nam_none (s : ByteArray) (h : s.size = 0) : nam s = false := by unfold nam; rw [decide_eq_false (by omega)]; rfl
theorem nam_long (s : ByteArray) (h : 8 < s.size) : nam s = false := by unfold nam; rw [decide_eq_false (p := s.size ≤ 8) (by omega)]; simp
theorem nam_few (s : ByteArray) (h0 : 0 < s.size) (h : s.size ≤ 8) : nam s = lets s 0 := by unfold nam; rw [decide_eq_true h0, decide_eq_true h]; rfl
theorem bt_decode (s : ByteArray) (k : Nat) (h : k < s.size) (hb : bt s k < 128) : Utf8.decode s k = ((bt s k).toNat, 1) := by
  have e : bt s k = ((s[k]'h).toNat : Int) := (get_bt s k h).symm
  rw [decode_ascii s k h (by omega), e]; rfl
theorem far_decode (s : ByteArray) (k : Nat) (h : k < s.size) (hb : 128 ≤ bt s k) : 128 ≤ (Utf8.decode s k).1 := by
  have e : bt s k = ((s[k]'h).toNat : Int) := (get_bt s k h).symm
  have e2 : s.get! k = s[k]'h := by simp [ByteArray.get!, getElem!_pos, h]; rfl
  rw [Lib.decode_at, e2]
  have h8 : 128 ≤ (s[k]'h).toNat := by omega
  unfold Lib.decodeN
  repeat' split
  all_goals (simp only [ge_iff_le] at *; omega)
def less (s t : ByteArray) : Bool := Op.bytesLess s.toList t.toList
def alike (s t : ByteArray) : Bool := s.toList == t.toList
def riseF (s : ByteArray) : List Hd → Bool
  | [] => true
  | h :: t => less s h.1 && riseF h.1 t
def rise : List Hd → Bool
  | [] => true
  | h :: t => riseF h.1 t
def inside (n : Nat) (H : List Hd) : Bool := H.all fun h => decide (0 ≤ h.2 ∧ h.2 < (n : Int))
def named (H : List Hd) : Bool := H.all fun h => nam h.1
def rchk (C : List Com) (H : List Hd) : Int :=
  if dchk C ≠ 0 then dchk C else if 4 < H.length then 2 else if named H = false then 4 else if inside C.length H = false then 1 else if rise H = false then 1 else 0
def idxF {α : Type} (p : α → Bool) : List α → Nat → Int
  | [], _ => -1
  | h :: t, k => if p h = true then (k : Int) else idxF p t (k + 1)
theorem hdrop (l : List Hd) (k : Nat) (h : k < l.length) : l.drop k = l.getD k hd0 :: l.drop (k + 1) := by
  rw [List.drop_eq_getElem_cons h]; simp [List.getD, h]
theorem idxF_neg {α : Type} (p : α → Bool) (l : List α) (k : Nat) : 0 ≤ idxF p l k ↔ l.any p = true := by
  induction l generalizing k with
  | nil => simp [idxF]
  | cons h t ih =>
    unfold idxF
    by_cases hp : p h = true
    · simp [hp]
    · rw [if_neg hp, ih]; simp [hp]
theorem idxF_range {α : Type} (p : α → Bool) (l : List α) (k : Nat) : idxF p l k = -1 ∨ ((k : Int) ≤ idxF p l k ∧ idxF p l k < ((k + l.length : Nat) : Int)) := by
  induction l generalizing k with
  | nil => exact Or.inl rfl
  | cons h t ih =>
    unfold idxF
    by_cases hp : p h = true
    · rw [if_pos hp]; right; simp; omega
    · rw [if_neg hp]
      rcases ih (k + 1) with e | ⟨h1, h2⟩
      · exact Or.inl e
      · right; simp at h2 ⊢; omega
theorem idxF_no {α : Type} (p : α → Bool) (l : List α) (k : Nat) (d : α) (h : k < l.length) (hp : p (l.getD k d) = false) : idxF p (l.drop k) k = idxF p (l.drop (k + 1)) (k + 1) := by
  rw [List.drop_eq_getElem_cons h]
  have e : l[k] = l.getD k d := by simp [List.getD, h]
  rw [e]
  show (if _ then _ else _) = _
  rw [if_neg (by rw [hp]; simp)]
theorem idxF_yes {α : Type} (p : α → Bool) (l : List α) (k : Nat) (d : α) (h : k < l.length) (hp : p (l.getD k d) = true) : idxF p (l.drop k) k = (k : Int) := by
  rw [List.drop_eq_getElem_cons h]
  have e : l[k] = l.getD k d := by simp [List.getD, h]
  rw [e]
  show (if _ then _ else _) = _
  rw [if_pos hp]
theorem idxF_end {α : Type} (p : α → Bool) (l : List α) (k : Nat) (h : l.length ≤ k) : idxF p (l.drop k) k = -1 := by
  rw [List.drop_eq_nil_of_le h]; rfl
theorem leq_less : ∀ x y : List UInt8, (Op.bytesLess x y || x == y) = !Op.bytesLess y x
  | [], [] => rfl
  | [], b :: y => by simp [Op.bytesLess]
  | a :: x, [] => by simp [Op.bytesLess]
  | a :: x, b :: y => by
    have ih := leq_less x y
    rw [Op.bytesLess, Op.bytesLess]
    by_cases h1 : a < b
    · have h2 : ¬ b < a := by rw [UInt8.lt_iff_toNat_lt] at *; omega
      have h3 : b ≠ a := by intro e; subst e; rw [UInt8.lt_iff_toNat_lt] at *; omega
      simp [h1, h2, h3]
    · by_cases h2 : b < a
      · have h3 : a ≠ b := by intro e; subst e; exact h1 h2
        simp [h1, h2, h3]
      · have h3 : a = b := by
          apply UInt8.toNat_inj.1
          rw [UInt8.lt_iff_toNat_lt] at *; omega
        subst h3
        simp only [h1, decide_false, Bool.false_or, BEq.rfl, Bool.true_and]
        rw [← ih]
        simp
theorem leq_not (s t : ByteArray) : (Op.bytesLess s.toList t.toList || s.toList == t.toList) = !less t s := leq_less _ _
theorem riseF_none (H : List Hd) (h : named H = true) : riseF (ByteArray.mk #[]) H = rise H := by
  cases H with
  | nil => rfl
  | cons x t =>
    have hx : nam x.1 = true := by unfold named at h; simp at h; exact h.1
    have h0 : 0 < x.1.size := by
      unfold nam at hx; simp at hx; have := hx.1; omega
    show (less _ x.1 && riseF x.1 t) = riseF x.1 t
    have : less (ByteArray.mk #[]) x.1 = true := by
      unfold less
      rw [ByteArray.toList_eq, ByteArray.toList_eq]
      cases hd : x.1.data.toList with
      | nil =>
        have : x.1.size = 0 := by show x.1.data.size = 0; rw [← Array.length_toList, hd]; rfl
        omega
      | cons a l => simp [Op.bytesLess]
    rw [this]; rfl
theorem riseF_end (s : ByteArray) (H : List Hd) (k : Nat) (h : H.length ≤ k) : riseF s (H.drop k) = true := by rw [List.drop_eq_nil_of_le h]; rfl
theorem riseF_at (s : ByteArray) (H : List Hd) (k : Nat) (h : k < H.length) (x : Hd) (e : H.getD k hd0 = x) : riseF s (H.drop k) = (less s x.1 && riseF x.1 (H.drop (k + 1))) := by
  rw [hdrop H k h, e]; rfl
theorem named_any (H : List Hd) : H.any (fun h => !nam h.1) = !named H := by
  unfold named; rw [List.not_all_eq_any_not]
theorem inside_any (n : Nat) (H : List Hd) : H.any (fun h => !decide (0 ≤ h.2 ∧ h.2 < (n : Int))) = !inside n H := by
  unfold inside; rw [List.not_all_eq_any_not]
def plc (H : List Hd) (s : ByteArray) : Int := idxF (fun h => alike h.1 s) H 0
def hchk (C : List Com) (H : List Hd) (s : ByteArray) : Int := if rchk C H ≠ 0 then rchk C H else if plc H s < 0 then 5 else 0
def hat (C : List Com) (H : List Hd) (s : ByteArray) : Int := if hchk C H s ≠ 0 then 0 else (H.getD (plc H s).toNat hd0).2
theorem rchk_zero {C : List Com} {H : List Hd} (h : rchk C H = 0) : dchk C = 0 ∧ H.length ≤ 4 ∧ named H = true ∧ inside C.length H = true ∧ rise H = true := by
  unfold rchk at h
  split at h
  · rename_i h1; exact absurd h h1
  · rename_i h1
    split at h
    · omega
    · split at h
      · omega
      · split at h
        · omega
        · split at h
          · omega
          · rename_i a b c d
            exact ⟨by simpa using h1, by omega, by simpa using b, by simpa using c, by simpa using d⟩
theorem hchk_zero {C : List Com} {H : List Hd} {s : ByteArray} (h : hchk C H s = 0) : rchk C H = 0 ∧ 0 ≤ plc H s := by
  unfold hchk at h
  split at h
  · rename_i h1; exact absurd h h1
  · rename_i h1
    split at h
    · omega
    · exact ⟨by simpa using h1, by omega⟩
theorem plc_lt (H : List Hd) (s : ByteArray) : plc H s = -1 ∨ (0 ≤ plc H s ∧ plc H s < (H.length : Int)) := by
  have := idxF_range (fun h : Hd => alike h.1 s) H 0
  unfold plc
  simpa using this
theorem inside_at {n : Nat} {H : List Hd} (h : inside n H = true) (k : Nat) (hk : k < H.length) : 0 ≤ (H.getD k hd0).2 ∧ (H.getD k hd0).2 < (n : Int) := by
  unfold inside at h
  rw [List.all_eq_true] at h
  have e : H.getD k hd0 = H[k] := by simp [List.getD, hk]
  have := h H[k] (List.getElem_mem hk)
  rw [e]; simpa using this
theorem rise_cons (x y : Hd) (t : List Hd) : rise (x :: y :: t) = (less x.1 y.1 && rise (y :: t)) := rfl
theorem rise_iff : ∀ H : List Hd, rise H = true ↔ ∀ k, k + 1 < H.length → less (H.getD k hd0).1 (H.getD (k + 1) hd0).1 = true
  | [] => by simp [rise]
  | [x] => by simp [rise, riseF]
  | x :: y :: t => by
    rw [rise_cons, Bool.and_eq_true, rise_iff (y :: t)]
    constructor
    · rintro ⟨h1, h2⟩ k hk
      cases k with
      | zero => exact h1
      | succ k =>
        have := h2 k (by simpa using hk)
        simpa using this
    · intro h
      refine ⟨h 0 (by simp), fun k hk => ?_⟩
      have := h (k + 1) (by simpa using hk)
      simpa using this
theorem inside_iff (n : Nat) (H : List Hd) : inside n H = true ↔ ∀ k, k < H.length → 0 ≤ (H.getD k hd0).2 ∧ (H.getD k hd0).2 < (n : Int) := by
  constructor
  · exact fun h k hk => inside_at h k hk
  · intro h
    unfold inside
    rw [List.all_eq_true]
    intro x hx
    obtain ⟨i, hi, e⟩ := List.getElem_of_mem hx
    have := h i hi
    rw [show H.getD i hd0 = x by simp [List.getD, hi, e]] at this
    simpa using this
def fineTo (n : Nat) (H : List Hd) (k : Nat) : Prop := ∀ j, j < k → (∀ i, i + 1 = j → less (H.getD i hd0).1 (H.getD j hd0).1 = true) ∧ 0 ≤ (H.getD j hd0).2 ∧ (H.getD j hd0).2 < (n : Int)
theorem fineTo_end {n : Nat} {H : List Hd} (h : fineTo n H H.length) : inside n H = true ∧ rise H = true :=
  ⟨(inside_iff n H).2 fun k hk => (h k hk).2, (rise_iff H).2 fun k hk => (h (k + 1) hk).1 k rfl⟩
theorem fineTo_bad {n : Nat} {H : List Hd} {k : Nat} (hk : k < H.length) (hb : (∃ i, i + 1 = k ∧ less (H.getD i hd0).1 (H.getD k hd0).1 = false) ∨ (H.getD k hd0).2 < 0 ∨ (n : Int) ≤ (H.getD k hd0).2) : inside n H = false ∨ rise H = false := by
  by_cases h1 : inside n H = false
  · exact Or.inl h1
  · right
    have h1 : inside n H = true := by simpa using h1
    have h2 := (inside_iff n H).1 h1 k hk
    rcases hb with ⟨i, hi, hl⟩ | hb
    · by_cases h3 : rise H = true
      · subst hi
        have := (rise_iff H).1 h3 i hk
        rw [hl] at this; simp at this
      · simpa using h3
    · omega
theorem fineTo_next {n : Nat} {H : List Hd} {k : Nat} (h : fineTo n H k) (h1 : ∀ i, i + 1 = k → less (H.getD i hd0).1 (H.getD k hd0).1 = true) (h2 : 0 ≤ (H.getD k hd0).2 ∧ (H.getD k hd0).2 < (n : Int)) : fineTo n H (k + 1) := by
  intro j hj
  by_cases e : j = k
  · subst e; exact ⟨h1, h2⟩
  · exact h j (by omega)
theorem named_at {H : List Hd} (h : ∀ k, k < H.length → nam (H.getD k hd0).1 = true) : named H = true := by
  unfold named
  rw [List.all_eq_true]
  intro x hx
  obtain ⟨i, hi, e⟩ := List.getElem_of_mem hx
  have := h i hi
  rw [show H.getD i hd0 = x by simp [List.getD, hi, e]] at this
  exact this
theorem named_no {H : List Hd} {k : Nat} (hk : k < H.length) (h : nam (H.getD k hd0).1 = false) : named H = false := by
  unfold named
  rw [List.all_eq_false]
  exact ⟨H[k], List.getElem_mem hk, by have e : H.getD k hd0 = H[k] := by simp [List.getD, hk]
                                       rw [← e, h]; simp⟩
theorem hat_in {C : List Com} {H : List Hd} {s : ByteArray} (h : hchk C H s = 0) : 0 ≤ hat C H s ∧ hat C H s < (C.length : Int) := by
  obtain ⟨h1, h2⟩ := hchk_zero h
  unfold hat
  rw [if_neg (by simpa using h)]
  have hp := plc_lt H s
  exact inside_at (rchk_zero h1).2.2.2.1 _ (by omega)
end Go.Proofs.YtcgpgflnihjpiagGreat.M

/- ChgT. -/
namespace Go.Proofs.YtcgpgflnihjpiagGreat.M
abbrev Chg := Int × Int × Int
end Go.Proofs.YtcgpgflnihjpiagGreat.M

/- Byt0. -/
namespace Go.Proofs.YtcgpgflnihjpiagGreat.M
abbrev By := List UInt8
def b1 (n : Int) : UInt8 := UInt8.ofNat n.toNat
def b2 (n : Int) : By := [UInt8.ofNat (n.toNat / 256), UInt8.ofNat (n.toNat % 256)]
theorem b1_of (b : UInt8) : b1 (b.toNat : Int) = b := by
  unfold b1
  rw [Int.toNat_natCast]
  exact UInt8.ofNat_toNat
def rB : By → Option (Int × By)
  | [] => none
  | b :: t => some ((b.toNat : Int), t)
def r2 : By → Option (Int × By)
  | x :: y :: t => some (256 * (x.toNat : Int) + (y.toNat : Int), t)
  | _ => none
def rT : By → Option (By × By)
  | [] => none
  | b :: t => if b.toNat ≤ t.length then some (t.take b.toNat, t.drop b.toNat) else none
def rN {α : Type} (f : By → Option (α × By)) : Nat → By → Option (List α × By)
  | 0, l => some ([], l)
  | n + 1, l => match f l with
    | none => none
    | some (x, l1) => match rN f n l1 with
      | none => none
      | some (xs, l2) => some (x :: xs, l2)
def rL {α : Type} (f : By → Option (α × By)) (l : By) : Option (List α × By) := match rB l with
  | none => none
  | some (n, l1) => rN f n.toNat l1
theorem rN_snoc {α : Type} (f : By → Option (α × By)) (k : Nat) (l : By) : rN f (k + 1) l = match rN f k l with
    | none => none
    | some (xs, l1) => match f l1 with
      | none => none
      | some (x, l2) => some (xs ++ [x], l2) := by
  induction k generalizing l with
  | zero =>
    simp only [rN]
    cases f l with
    | none => rfl
    | some p => rfl
  | succ k ih =>
    rw [rN]
    conv => rhs; rw [rN]
    cases h : f l with
    | none => rfl
    | some p =>
      obtain ⟨x, l1⟩ := p
      simp only
      rw [ih l1]
      cases rN f k l1 with
      | none => rfl
      | some q =>
        obtain ⟨xs, l2⟩ := q
        simp only
        cases f l2 with
        | none => rfl
        | some q => rfl
theorem rN_none {α : Type} (f : By → Option (α × By)) (k n : Nat) (l : By) (h : rN f k l = none) (hk : k ≤ n) : rN f n l = none := by
  induction n with
  | zero => obtain rfl : k = 0 := by omega
            exact h
  | succ n ih =>
    by_cases e : k = n + 1
    · subst e; exact h
    · rw [rN_snoc, ih (by omega)]
def pT (s : By) : By := b1 s.length :: s
theorem rB_inv {l t : By} {n : Int} (h : rB l = some (n, t)) : l = b1 n :: t ∧ 0 ≤ n ∧ n < 256 := by
  cases l with
  | nil => simp [rB] at h
  | cons b u =>
    simp only [rB, Option.some.injEq, Prod.mk.injEq] at h
    obtain ⟨rfl, rfl⟩ := h
    refine ⟨by rw [b1_of], by omega, ?_⟩
    have := b.toNat_lt; omega
theorem r2_inv {l t : By} {n : Int} (h : r2 l = some (n, t)) : l = b2 n ++ t ∧ 0 ≤ n ∧ n < 65536 := by
  match l, h with
  | [], h => simp [r2] at h
  | [x], h => simp [r2] at h
  | x :: y :: u, h =>
    simp only [r2, Option.some.injEq, Prod.mk.injEq] at h
    obtain ⟨rfl, rfl⟩ := h
    have hx := x.toNat_lt
    have hy := y.toNat_lt
    refine ⟨?_, by omega, by omega⟩
    unfold b2
    rw [show (256 * (x.toNat : Int) + (y.toNat : Int)).toNat / 256 = x.toNat by omega, show (256 * (x.toNat : Int) + (y.toNat : Int)).toNat % 256 = y.toNat by omega, UInt8.ofNat_toNat, UInt8.ofNat_toNat]
    rfl
theorem rT_inv {l t s : By} (h : rT l = some (s, t)) : l = pT s ++ t ∧ s.length < 256 := by
  cases l with
  | nil => simp [rT] at h
  | cons b u =>
    rw [rT] at h
    split at h
    · rename_i hb
      simp only [Option.some.injEq, Prod.mk.injEq] at h
      obtain ⟨rfl, rfl⟩ := h
      have hl : (u.take b.toNat).length = b.toNat := by rw [List.length_take]; omega
      refine ⟨?_, by rw [hl]; exact b.toNat_lt⟩
      unfold pT
      rw [hl, b1_of, List.cons_append, List.take_append_drop]
    · simp at h
theorem rN_inv {α : Type} {f : By → Option (α × By)} {p : α → By} {q : α → Prop} (h : ∀ l x t, f l = some (x, t) → l = p x ++ t ∧ q x) : ∀ (n : Nat) (l : By) (xs : List α) (t : By), rN f n l = some (xs, t) → l = xs.flatMap p ++ t ∧ xs.length = n ∧ ∀ x ∈ xs, q x
  | 0, l, xs, t, hh => by
    simp only [rN, Option.some.injEq, Prod.mk.injEq] at hh
    obtain ⟨rfl, rfl⟩ := hh
    exact ⟨rfl, rfl, fun x hx => by simp at hx⟩
  | n + 1, l, xs, t, hh => by
    rw [rN] at hh
    split at hh
    · simp at hh
    · rename_i x l1 hx
      split at hh
      · simp at hh
      · rename_i ys l2 hy
        simp only [Option.some.injEq, Prod.mk.injEq] at hh
        obtain ⟨rfl, rfl⟩ := hh
        obtain ⟨e1, q1⟩ := h _ _ _ hx
        obtain ⟨e2, l3, q2⟩ := rN_inv h n _ _ _ hy
        refine ⟨by rw [e1, e2, List.flatMap_cons, List.append_assoc], by simp [l3], fun y hy => ?_⟩
        rcases List.mem_cons.1 hy with rfl | hy
        · exact q1
        · exact q2 y hy
def pL {α : Type} (p : α → By) (xs : List α) : By := b1 xs.length :: xs.flatMap p
theorem rL_inv {α : Type} {f : By → Option (α × By)} {p : α → By} {q : α → Prop} (h : ∀ l x t, f l = some (x, t) → l = p x ++ t ∧ q x) {l t : By} {xs : List α} (hh : rL f l = some (xs, t)) : l = pL p xs ++ t ∧ xs.length < 256 ∧ ∀ x ∈ xs, q x := by
  unfold rL at hh
  split at hh
  · simp at hh
  · rename_i n l1 hB
    obtain ⟨e1, n0, n1⟩ := rB_inv hB
    obtain ⟨e2, hl, hq⟩ := rN_inv h _ _ _ _ hh
    refine ⟨?_, by omega, hq⟩
    unfold pL
    rw [e1, e2, hl, Int.toNat_of_nonneg n0, List.cons_append]
structure Act where
  kind : Int
  one : By
  two : By
  chs : List Chg
def pC (c : Chg) : By := b1 c.1 :: (b2 (c.2.1 + 1) ++ b2 (c.2.2 + 1))
def pA (x : Act) : By := b1 x.kind :: (pT x.one ++ (pT x.two ++ pL pC x.chs))
def rC (l : By) : Option (Chg × By) := match rB l with
  | none => none
  | some (k, l1) => match r2 l1 with
    | none => none
    | some (o, l2) => match r2 l2 with
      | none => none
      | some (n, l3) => some ((k, o - 1, n - 1), l3)
def rA (l : By) : Option (Act × By) := match rB l with
  | none => none
  | some (k, l1) => match rT l1 with
    | none => none
    | some (o, l2) => match rT l2 with
      | none => none
      | some (n, l3) => match rL rC l3 with
        | none => none
        | some (c, l4) => some (⟨k, o, n, c⟩, l4)
def okC (c : Chg) : Prop := 0 ≤ c.1 ∧ c.1 < 256 ∧ 0 ≤ c.2.1 + 1 ∧ c.2.1 + 1 < 65536 ∧ 0 ≤ c.2.2 + 1 ∧ c.2.2 + 1 < 65536
def okA (x : Act) : Prop := (0 ≤ x.kind ∧ x.kind < 256) ∧ x.one.length < 256 ∧ x.two.length < 256 ∧ x.chs.length < 256 ∧ ∀ c ∈ x.chs, okC c
theorem rC_inv {l t : By} {c : Chg} (h : rC l = some (c, t)) : l = pC c ++ t ∧ okC c := by
  unfold rC at h
  split at h
  · simp at h
  · rename_i k l1 e1
    split at h
    · simp at h
    · rename_i o l2 e2
      split at h
      · simp at h
      · rename_i n l3 e3
        simp only [Option.some.injEq, Prod.mk.injEq] at h
        obtain ⟨rfl, rfl⟩ := h
        obtain ⟨a1, a2, a3⟩ := rB_inv e1
        obtain ⟨c1, c2, c3⟩ := r2_inv e2
        obtain ⟨d1, d2, d3⟩ := r2_inv e3
        refine ⟨?_, a2, a3, by show 0 ≤ o - 1 + 1; omega, by show o - 1 + 1 < 65536; omega, by show 0 ≤ n - 1 + 1; omega, by show n - 1 + 1 < 65536; omega⟩
        unfold pC
        simp only
        rw [a1, c1, d1, Int.sub_add_cancel, Int.sub_add_cancel, List.cons_append, List.append_assoc]
theorem rA_inv {l t : By} {x : Act} (h : rA l = some (x, t)) : l = pA x ++ t ∧ okA x := by
  unfold rA at h
  split at h
  · simp at h
  · rename_i k l1 e1
    split at h
    · simp at h
    · rename_i o l2 e2
      split at h
      · simp at h
      · rename_i n l3 e3
        split at h
        · simp at h
        · rename_i c l4 e4
          simp only [Option.some.injEq, Prod.mk.injEq] at h
          obtain ⟨rfl, rfl⟩ := h
          obtain ⟨a1, a2, a3⟩ := rB_inv e1
          obtain ⟨c1, c2⟩ := rT_inv e2
          obtain ⟨d1, d2⟩ := rT_inv e3
          obtain ⟨f1, f2, f3⟩ := rL_inv (fun _ _ _ => rC_inv) e4
          refine ⟨?_, ⟨a2, a3⟩, c2, d2, f2, f3⟩
          unfold pA
          simp only
          rw [a1, c1, d1, f1]
          simp [List.append_assoc]
end Go.Proofs.YtcgpgflnihjpiagGreat.M

/- Byt1. -/
namespace Go.Proofs.YtcgpgflnihjpiagGreat.M
def rAs : Nat → By → List Act × By
  | 0, l => ([], l)
  | n + 1, l => match rA l with
    | none => ([], l)
    | some (x, l1) => (x :: (rAs n l1).1, (rAs n l1).2)
theorem pA_pos (x : Act) : 4 ≤ (pA x).length := by
  unfold pA pT pL
  simp; omega
theorem rA_less {l t : By} {x : Act} (h : rA l = some (x, t)) : t.length + 4 ≤ l.length := by
  rw [(rA_inv h).1, List.length_append]
  have := pA_pos x
  omega
theorem rAs_len (n : Nat) (l : By) : (rAs n l).1.length ≤ n ∧ (rAs n l).2.length ≤ l.length := by
  induction n generalizing l with
  | zero => simp [rAs]
  | succ n ih =>
    rw [rAs]
    split
    · simp
    · rename_i x l1 e
      have := rA_less e
      have := ih l1
      simp; omega
theorem rAs_none (n : Nat) (l : By) (h : rA l = none) : rAs n l = ([], l) := by
  cases n with
  | zero => rfl
  | succ n => rw [rAs, h]
theorem rAs_ok (n : Nat) (l : By) : ∀ x ∈ (rAs n l).1, okA x := by
  induction n generalizing l with
  | zero => simp [rAs]
  | succ n ih =>
    rw [rAs]
    split
    · simp
    · rename_i x l1 e
      intro y hy
      rcases List.mem_cons.1 hy with rfl | hy
      · exact (rA_inv e).2
      · exact ih l1 y hy
end Go.Proofs.YtcgpgflnihjpiagGreat.M

/- Pen0. -/
namespace Go.Proofs.YtcgpgflnihjpiagGreat.M
def pnB (two : Bool) (n : Int) : Bool := decide (0 ≤ n ∧ n < (if two = true then 65536 else 256))
def pnE (two : Bool) (n : Int) : By := if two = true then b2 n else [b1 n]
def pnS (two : Bool) (st : By × Bool) (n : Int) : By × Bool := if st.2 = true then st else if pnB two n = true then (st.1 ++ pnE two n, false) else (st.1, true)
def pnL (two : Bool) (st : By × Bool) (ns : List Int) : By × Bool := ns.foldl (pnS two) st
theorem pnL_over (two : Bool) (l : By) (ns : List Int) : pnL two (l, true) ns = (l, true) := by
  induction ns with
  | nil => rfl
  | cons n t ih => unfold pnL at ih ⊢; rw [List.foldl_cons]; exact ih
theorem pnL_take (two : Bool) (st : By × Bool) (ns : List Int) (k : Nat) (h : k < ns.length) : pnL two st (ns.take (k + 1)) = pnS two (pnL two st (ns.take k)) (ns.getD k 0) := by
  unfold pnL
  rw [List.take_succ_eq_append_getElem h, List.foldl_append]
  simp [List.getD, h]
theorem pnL_stays (two : Bool) (st : By × Bool) (ns : List Int) (k : Nat) (h : (pnL two st (ns.take k)).2 = true) : pnL two st ns = pnL two st (ns.take k) := by
  have e : pnL two st ns = pnL two (pnL two st (ns.take k)) (ns.drop k) := by
    unfold pnL
    rw [← List.foldl_append, List.take_append_drop]
  rw [e]
  generalize pnL two st (ns.take k) = q at *
  obtain ⟨l, o⟩ := q
  simp only at h
  subst h
  exact pnL_over two l _
theorem byte_mod (n : Nat) : UInt8.ofNat (n % 256) = UInt8.ofNat n := by
  apply UInt8.toNat_inj.1
  rw [UInt8.toNat_ofNat', UInt8.toNat_ofNat']
  omega
def pnT (st : By × Bool) (s : By) : By × Bool := if (pnS false st s.length).2 = true then pnS false st s.length else ((pnS false st s.length).1 ++ s, false)
theorem pnS_len (two : Bool) (st : By × Bool) (n : Int) : (pnS two st n).1.length ≤ st.1.length + 2 := by
  unfold pnS pnE b2
  split
  · omega
  · split
    · cases two <;> simp
    · simp
theorem pnL_len (two : Bool) (st : By × Bool) (ns : List Int) : (pnL two st ns).1.length ≤ st.1.length + 2 * ns.length := by
  unfold pnL
  induction ns generalizing st with
  | nil => simp
  | cons n t ih =>
    rw [List.foldl_cons, List.length_cons]
    have h1 := ih (pnS two st n)
    have h2 := pnS_len two st n
    omega
theorem pnS_small {st : By × Bool} {n : Nat} (h : (pnS false st (n : Int)).2 = false) : n < 256 := by
  unfold pnS pnB at h
  by_cases h1 : st.2 = true
  · rw [if_pos h1] at h; rw [h1] at h; cases h
  · rw [if_neg h1] at h
    by_cases h2 : n < 256
    · exact h2
    · rw [if_neg (by simp; omega)] at h; cases h
theorem pnT_len (st : By × Bool) (s : By) : (pnT st s).1.length ≤ st.1.length + 257 := by
  unfold pnT
  have h := pnS_len false st s.length
  split
  · omega
  · rename_i h1
    have h2 := pnS_small (by simpa using h1)
    rw [List.length_append]
    omega
def Step (st st' : By × Bool) (ok : Prop) (add : By) : Prop := (st.2 = true → st' = st) ∧ (st.2 = false → ok → st' = (st.1 ++ add, false)) ∧ (st.2 = false → ¬ ok → st'.2 = true)
theorem Step.then {a b c : By × Bool} {ok ok' : Prop} {x y : By} (h : Step a b ok x) (k : Step b c ok' y) : Step a c (ok ∧ ok') (x ++ y) := by
  refine ⟨fun e => ?_, fun e ⟨h1, h2⟩ => ?_, fun e hn => ?_⟩
  · have e1 := h.1 e
    rw [k.1 (by rw [e1]; exact e), e1]
  · have e1 := h.2.1 e h1
    rw [k.2.1 (by rw [e1]) h2, e1, List.append_assoc]
  · by_cases h1 : ok
    · have e1 := h.2.1 e h1
      exact k.2.2 (by rw [e1]) (fun h2 => hn ⟨h1, h2⟩)
    · have e1 := h.2.2 e h1
      rw [k.1 e1]; exact e1
theorem Step.iff {a b : By × Bool} {ok ok' : Prop} {x y : By} (h : Step a b ok x) (e : ok ↔ ok') (e2 : x = y) : Step a b ok' y := by
  subst e2; rwa [← propext e]
theorem step_num (two : Bool) (st : By × Bool) (n : Int) : Step st (pnS two st n) (pnB two n = true) (pnE two n) := by
  refine ⟨fun e => ?_, fun e h => ?_, fun e h => ?_⟩
  · unfold pnS; rw [if_pos e]
  · unfold pnS; rw [if_neg (by rw [e]; simp), if_pos h]
  · unfold pnS; rw [if_neg (by rw [e]; simp), if_neg h]
theorem step_list {α : Type} (f : By × Bool → α → By × Bool) (ok : α → Prop) (p : α → By) (hf : ∀ st c, Step st (f st c) (ok c) (p c)) (l : List α) (st : By × Bool) : Step st (l.foldl f st) (∀ c ∈ l, ok c) (l.flatMap p) := by
  induction l generalizing st with
  | nil => exact ⟨fun _ => rfl, fun e _ => by obtain ⟨a, b⟩ := st; simp only at e; subst e; simp, fun _ h => absurd (by simp) h⟩
  | cons c t ih =>
    exact ((hf st c).then (ih (f st c))).iff (by simp) (by simp)
def wC (st : By × Bool) (c : Chg) : By × Bool := pnL true (pnL false st [c.1]) [c.2.1 + 1, c.2.2 + 1]
def wA4 (x : Act) : By × Bool := pnL false (pnT (pnT (pnL false ([], false) [x.kind]) x.one) x.two) [(x.chs.length : Int)]
def wA (x : Act) : By × Bool := x.chs.foldl wC (wA4 x)
theorem step_C (st : By × Bool) (c : Chg) : Step st (wC st c) (okC c) (pC c) := by
  refine (((step_num false st c.1).then (step_num true _ (c.2.1 + 1))).then (step_num true _ (c.2.2 + 1))).iff ?_ ?_
  · unfold pnB okC; simp; omega
  · unfold pnE pC; simp
theorem wC_take (st : By × Bool) (l : List Chg) (k : Nat) (h : k < l.length) : (l.take (k + 1)).foldl wC st = wC ((l.take k).foldl wC st) (l.getD k (0, 0, 0)) := by
  rw [List.take_succ_eq_append_getElem h, List.foldl_append]
  simp [List.getD, h]
theorem wC_len (st : By × Bool) (c : Chg) : (wC st c).1.length ≤ st.1.length + 6 := by
  have h1 := pnL_len true (pnL false st [c.1]) [c.2.1 + 1, c.2.2 + 1]
  have h2 := pnL_len false st [c.1]
  unfold wC
  simp at h1 h2
  omega
theorem wC_all (st : By × Bool) (l : List Chg) : (l.foldl wC st).1.length ≤ st.1.length + 6 * l.length := by
  induction l generalizing st with
  | nil => simp
  | cons c t ih =>
    have h1 := ih (wC st c)
    have h2 := wC_len st c
    rw [List.foldl_cons, List.length_cons]
    omega
theorem wA_len (x : Act) (k : Nat) : ((x.chs.take k).foldl wC (wA4 x)).1.length ≤ 10000 := by
  have h4 : (wA4 x).1.length ≤ 600 := by
    have h1 := pnL_len false (pnT (pnT (pnL false ([], false) [x.kind]) x.one) x.two) [(x.chs.length : Int)]
    have h2 := pnT_len (pnT (pnL false ([], false) [x.kind]) x.one) x.two
    have h3 := pnT_len (pnL false ([], false) [x.kind]) x.one
    have h5 := pnL_len false ([], false) [x.kind]
    unfold wA4
    simp only [List.length_singleton, List.length_nil] at h1 h2 h3 h5 ⊢
    omega
  by_cases ho : (wA4 x).2 = true
  · rw [(step_list wC okC pC step_C (x.chs.take k) (wA4 x)).1 ho]; omega
  · have hs : x.chs.length < 256 := pnS_small (st := pnT (pnT (pnL false ([], false) [x.kind]) x.one) x.two) (by rw [Bool.not_eq_true] at ho; exact ho)
    have h1 := wC_all (wA4 x) (x.chs.take k)
    have h2 : (x.chs.take k).length ≤ x.chs.length := by rw [List.length_take]; omega
    omega
def inI (n : Int) : Prop := -9223372036854775808 ≤ n ∧ n ≤ 9223372036854775807
end Go.Proofs.YtcgpgflnihjpiagGreat.M

/- Byt3. -/
namespace Go.Proofs.YtcgpgflnihjpiagGreat.M
def str (l : By) : ByteArray := ⟨l.toArray⟩
theorem str_size (l : By) : (str l).size = l.length := by simp [str, ByteArray.size]
theorem str_take (l : By) (n : Nat) : (str l).extract 0 n = str (l.take n) := by
  apply ByteArray.ext
  rw [ByteArray.data_extract]
  simp [str]
theorem str_drop (l : By) (n : Nat) (m : Nat) (h : m = l.length) : (str l).extract n m = str (l.drop n) := by
  subst h
  apply ByteArray.ext
  rw [ByteArray.data_extract]
  simp [str]
  exact List.take_of_length_le (by simp)
end Go.Proofs.YtcgpgflnihjpiagGreat.M

/- Base. -/
namespace Go.Proofs.YtcgpgflnihjpiagGreat
open Go.RowKit
theorem ret_int {k : IntKind} {a b : Int} (h : a = b) : Ending.returned (.int k a) = .returned (.int k b) := by rw [h]
theorem ret_bool {a b : Bool} (h : a = b) : Ending.returned (.bool a) = .returned (.bool b) := by rw [h]
theorem ret_two {k : IntKind} {a a' : Int} {v : Value} (h : a = a') : Ending.returned (.tuple #[.int k a, v]) = .returned (.tuple #[.int k a', v]) := by rw [h]
def Rd (w : World) (a : Option Addr) (n : Nat) (l : List (Int × Int)) : Prop :=
  l.length = n ∧ (n = 0 ∨ ∃ b off, a = some ⟨b, off, none⟩ ∧ b < w.heap.size ∧ ∀ i, i < n → w.cell? ⟨b, off + i * 2, none⟩ = some (.int .i64 (l.getD i (0, 0)).1) ∧ w.cell? ⟨b, off + i * 2 + 1, none⟩ = some (.int .i64 (l.getD i (0, 0)).2))
theorem Rd.below {w w' : World} {a : Option Addr} {n : Nat} {l : List (Int × Int)} (h : Rd w a n l) {B : Nat} (hb : Below B w w') (hB : w.heap.size ≤ B) : Rd w' a n l := by
  obtain ⟨h1, h2⟩ := h
  refine ⟨h1, ?_⟩
  rcases h2 with h2 | ⟨b, off, ha, hlt, hc⟩
  · exact Or.inl h2
  · refine Or.inr ⟨b, off, ha, Nat.lt_of_lt_of_le hlt hb.size, fun i hi => ?_⟩
    rw [hb.cell (p := ⟨b, off + i * 2, none⟩) (by show b < B; omega), hb.cell (p := ⟨b, off + i * 2 + 1, none⟩) (by show b < B; omega)]
    exact hc i hi
theorem Rd.cases {w : World} {a : Option Addr} {n : Nat} {l : List (Int × Int)} (h : Rd w a n l) : (n = 0 ∧ l = []) ∨ ∃ b off, a = some ⟨b, off, none⟩ ∧ 0 < n ∧ l.length = n ∧ b < w.heap.size ∧ ∀ i, i < n → w.cell? ⟨b, off + i * 2, none⟩ = some (.int .i64 (l.getD i (0, 0)).1) ∧ w.cell? ⟨b, off + i * 2 + 1, none⟩ = some (.int .i64 (l.getD i (0, 0)).2) := by
  obtain ⟨h1, h2⟩ := h
  by_cases hn : n = 0
  · exact Or.inl ⟨hn, List.eq_nil_of_length_eq_zero (by omega)⟩
  · rcases h2 with h2 | ⟨b, off, ha, hlt, hc⟩
    · exact absurd h2 hn
    · exact Or.inr ⟨b, off, ha, by omega, h1, hlt, hc⟩
end Go.Proofs.YtcgpgflnihjpiagGreat
namespace Go.Proofs.YtcgpgflnihjpiagGreat
open Go.RowKit
def Ri (w : World) (a : Option Addr) (n : Nat) (l : List Int) : Prop :=
  l.length = n ∧ (n = 0 ∨ ∃ b off, a = some ⟨b, off, none⟩ ∧ b < w.heap.size ∧ ∀ i, i < n → w.cell? ⟨b, off + i, none⟩ = some (.int .i64 (l.getD i 0)))
theorem Ri.below {w w' : World} {a : Option Addr} {n : Nat} {l : List Int} (h : Ri w a n l) {B : Nat} (hb : Below B w w') (hB : w.heap.size ≤ B) : Ri w' a n l := by
  obtain ⟨h1, h2⟩ := h
  refine ⟨h1, ?_⟩
  rcases h2 with h2 | ⟨b, off, ha, hlt, hc⟩
  · exact Or.inl h2
  · refine Or.inr ⟨b, off, ha, Nat.lt_of_lt_of_le hlt hb.size, fun i hi => ?_⟩
    rw [hb.cell (p := ⟨b, off + i, none⟩) (by show b < B; omega)]
    exact hc i hi
theorem Ri.cases {w : World} {a : Option Addr} {n : Nat} {l : List Int} (h : Ri w a n l) : (n = 0 ∧ l = []) ∨ ∃ b off, a = some ⟨b, off, none⟩ ∧ 0 < n ∧ l.length = n ∧ b < w.heap.size ∧ ∀ i, i < n → w.cell? ⟨b, off + i, none⟩ = some (.int .i64 (l.getD i 0)) := by
  obtain ⟨h1, h2⟩ := h
  by_cases hn : n = 0
  · exact Or.inl ⟨hn, List.eq_nil_of_length_eq_zero (by omega)⟩
  · rcases h2 with h2 | ⟨b, off, ha, hlt, hc⟩
    · exact absurd h2 hn
    · exact Or.inr ⟨b, off, ha, by omega, h1, hlt, hc⟩
theorem infoInt : (Tryz.prog.info? 3).map (fun i => (i.zero, i.size, i.bytes)) = some (some (.int .i64 0), 1, 8) := by kernel_rfl
theorem ri_one (w : World) (x : Int) : ∀ i, i < 1 → (w.alloc (.cells #[.int .i64 x] 3)).cell? ⟨w.heap.size, 0 + i, none⟩ = some (.int .i64 (([x] : List Int).getD i 0)) := by
  intro i hi
  obtain rfl : i = 0 := by omega
  simp [go_sem]
theorem ri_two (w : World) (x y : Int) : ∀ i, i < 2 → (w.alloc (.cells #[.int .i64 x, .int .i64 y] 3)).cell? ⟨w.heap.size, 0 + i, none⟩ = some (.int .i64 (([x, y] : List Int).getD i 0)) := by
  intro i hi
  match i, hi with
  | 0, _ => simp [go_sem]
  | 1, _ => simp [go_sem]
def OwnI (w : World) (base : Nat) (v : Value) (l : List Int) : Prop := w.ownsRow base 3 1 v l.length (l.map (Value.int .i64))
theorem OwnI.nil (w : World) (base : Nat) : OwnI w base (.slice none 0 0) [] := World.ownsRow_nil _ _ _ _
theorem OwnI.mono {w : World} {base base' : Nat} {v : Value} {l : List Int} (h : OwnI w base v l) (hb : base' ≤ base) : OwnI w base' v l := by
  obtain ⟨h1, h2⟩ := h
  refine ⟨h1, ?_⟩
  rcases h2 with h2 | ⟨g, cap, cur, hv, hg, r⟩
  · exact Or.inl h2
  · exact Or.inr ⟨g, cap, cur, hv, Nat.le_trans hb hg, r⟩
theorem OwnI.ri {w : World} {base : Nat} {v : Value} {l : List Int} (h : OwnI w base v l) : ∃ a cap, v = .slice a l.length cap ∧ Ri w a l.length l ∧ l.length ≤ cap ∧ cap ≤ maxLen := by
  have h0 := h
  obtain ⟨h1, h2⟩ := h
  rcases h2 with ⟨rfl, hn⟩ | ⟨g, cap, cur, rfl, hb, hh, hc, hm, hs, hx⟩
  · exact ⟨none, 0, by rw [hn], ⟨rfl, Or.inl hn⟩, by omega, by simp [maxLen]⟩
  · refine ⟨_, cap, rfl, ⟨rfl, ?_⟩, hc, hm⟩
    have hlt : g < w.heap.size := (Array.getElem?_eq_some_iff.1 hh).1
    refine Or.inr ⟨g, 0, rfl, hlt, fun i hi => ?_⟩
    rw [World.ownsRow.cellAt h0 (0 + i) (by omega), Nat.zero_add]
    simp [List.getD, hi]
theorem append_ri {w : World} {ops : Array Oper} {rest : List Oper} {o : Oper} {a : Act} {Q : Exit → Act → World → Prop} (hgd : o.guard = none) (s x : Operand)
    (ho : o.op = .call { callee := .builtin .append, args := #[s, x], argTypes := #[24, 24] })
    (base : Nat) (v : Value) (l : List Int) (hs : a.eval s = v) (hown : OwnI w base v l)
    (b m c : Nat) (l2 : List Int) (hx : a.eval x = .slice (some ⟨b, 0, none⟩) m c) (hl2 : l2.length = m) (hc : ∀ i, i < m → w.cell? ⟨b, 0 + i, none⟩ = some (.int .i64 (l2.getD i 0)))
    (hbig : l.length + m ≤ 1000000) (hbase : base ≤ w.heap.size)
    (h : ∀ v' w', OwnI w' base v' (l ++ l2) → Below base w w' → (∀ k, k < w.heap.size → v.ownBlock ≠ some k → w'.heap[k]? = w.heap[k]?) → wpList Tryz.prog ops Q rest (a.put o.dst v') w') : wpList Tryz.prog ops Q (o :: rest) a w := by
  obtain ⟨i0, hi, hz0, hz1, hz2⟩ := info_parts infoInt
  have hnews : ∀ j u, (l2.map (Value.int .i64))[j]? = some u → w.cell? ((⟨b, 0, none⟩ : Addr).add j) = some u := by
    intro j u hj
    have hj2 : j < m := by have := (List.getElem?_eq_some_iff.1 hj).1; simpa [hl2] using this
    rw [Addr.add_lit, hc j hj2, ← hj]
    simp [List.getD, hl2, hj2]
  refine wpList_append_own _ hgd s x 24 ho base 3 i0 (.int .i64 0) 1 8 Tryz.underlying24 hi hz0 hz1 hz2 rfl (by decide) v l.length (l.map (Value.int .i64)) hs hown ⟨b, 0, none⟩ m c (l2.map (Value.int .i64)) hx (by simp [hl2]) hnews (by intro u hu; obtain ⟨y, _, rfl⟩ := List.mem_map.1 hu; rfl)
    (by simp only [maxLen]; omega) (by omega) hbase ?_
  intro v' w' h1 h2 _
  refine h v' w' ?_ ((Below.refl _ _).grown h2 hbase fun k hk => (World.ownsRow.lt hown k hk).1) (fun k hk hne => h2.block k hk (fun e => hne e.symm))
  unfold OwnI
  rw [List.map_append, List.length_append, hl2]
  exact h1
theorem OwnI.below {w w' : World} {base : Nat} {v : Value} {l : List Int} (h : OwnI w base v l) (hb : Below w.heap.size w w') : OwnI w' base v l := by
  obtain ⟨h1, h2⟩ := h
  refine ⟨h1, ?_⟩
  rcases h2 with h2 | ⟨g, cap, cur, hv, hg, hh, r⟩
  · exact Or.inl h2
  · exact Or.inr ⟨g, cap, cur, hv, hg, (hb.block g (Array.getElem?_eq_some_iff.1 hh).1).trans hh, r⟩
end Go.Proofs.YtcgpgflnihjpiagGreat
namespace Go.Proofs.YtcgpgflnihjpiagGreat
open Go.RowKit
section
variable {P : Program} {ops : Array Oper} {Q : Exit → Act → World → Prop} {md : Region.Mode} {S : World → Prop} {L : Nat}
def Till (P : Program) (md : Region.Mode) (ops : Array Oper) (Q : Exit → Act → World → Prop) (S : World → Prop) (L : Nat) : Nat → Array Bool → Act → World → Prop
  | 0, listed, a, w => Region.ready md ops listed = [] ∧ Q .normal a w
  | fuel + 1, listed, a, w =>
    (Region.ready md ops listed = [] → Q .normal a w) ∧
    ∀ i ∈ Region.ready md ops listed, wpOp P ops Q i (fun a' w' => (i ≠ L → listed.getD L true = false → S w') ∧ Till P md ops Q S L fuel (listed.setIfInBounds i true) a' w') a w
theorem wpAny_of_till : ∀ (fuel : Nat) (listed : Array Bool) (a : Act) (w : World), Till P md ops Q S L fuel listed a w → wpAny P md ops Q fuel listed a w
  | 0, _, _, _, h => h
  | fuel + 1, _, _, _, h => ⟨h.1, fun i hi => wpOp_mono (fun a' w' h' => wpAny_of_till fuel _ a' w' h'.2) (h.2 i hi)⟩
def waits (md : Region.Mode) (ops : Array Oper) (L i : Nat) : Bool := match ops[L]? with
  | none => false
  | some o => o.after.any fun e => Region.binds md e && e.on == i
def waitsT (md : Region.Mode) (ops : Array Oper) : Nat → Nat → Nat → Bool
  | 0, L, i => waits md ops L i
  | n + 1, L, i => waits md ops L i || (match ops[L]? with
    | none => false
    | some o => o.after.any fun e => Region.binds md e && waitsT md ops n e.on i)
def Closed (md : Region.Mode) (ops : Array Oper) (listed : Array Bool) : Prop := ∀ j o, ops[j]? = some o → listed.getD j false = true → ∀ e ∈ o.after, Region.binds md e = true → listed.getD e.on false = true
def closedB (md : Region.Mode) (ops : Array Oper) (listed : Array Bool) : Bool := (List.range ops.size).all fun j => match ops[j]? with
  | none => true
  | some o => !listed.getD j false || o.after.all fun e => !Region.binds md e || listed.getD e.on false
theorem closed_of {listed : Array Bool} (h : closedB md ops listed = true) : Closed md ops listed := by
  intro j o hj hl e he hb
  unfold closedB at h
  rw [List.all_eq_true] at h
  have hlt : j < ops.size := (Array.getElem?_eq_some_iff.1 hj).1
  have h1 := h j (List.mem_range.2 hlt)
  rw [hj] at h1
  simp only [hl, Bool.not_true, Bool.false_or] at h1
  rw [Array.all_eq_true_iff_forall_mem] at h1
  have h2 := h1 e he
  simpa [hb] using h2
theorem Closed.next {listed : Array Bool} (h : Closed md ops listed) {j : Nat} (hj : j ∈ Region.ready md ops listed) : Closed md ops (listed.setIfInBounds j true) := by
  intro k o hk hl e he hb
  by_cases hjk : j = k
  · subst hjk
    obtain ⟨_, oj, hoj, hall⟩ := mem_ready.1 hj
    rw [hk] at hoj
    cases hoj
    exact getD_set_true (hall e he hb)
  · rw [getD_set_ne false hjk] at hl
    exact getD_set_true (h k o hk hl e he hb)
theorem waitsT_not {listed : Array Bool} (hc : Closed md ops listed) {i : Nat} (hi : listed.getD i false = false) : ∀ (n L : Nat), waitsT md ops n L i = true → ∀ o, ops[L]? = some o → ¬ ∀ e ∈ o.after, Region.binds md e = true → listed.getD e.on false = true
  | 0, L, hw, o, ho, hall => by
    unfold waitsT waits at hw
    rw [ho] at hw
    simp only [Array.any_eq_true] at hw
    obtain ⟨x, hx, hb⟩ := hw
    simp only [Bool.and_eq_true, beq_iff_eq] at hb
    have := hall _ (Array.getElem_mem hx) hb.1
    rw [hb.2, hi] at this
    cases this
  | n + 1, L, hw, o, ho, hall => by
    unfold waitsT at hw
    rw [Bool.or_eq_true] at hw
    rcases hw with hw | hw
    · exact waitsT_not hc hi 0 L hw o ho hall
    · rw [ho] at hw
      simp only [Array.any_eq_true] at hw
      obtain ⟨x, hx, hb⟩ := hw
      simp only [Bool.and_eq_true] at hb
      have hl := hall _ (Array.getElem_mem hx) hb.1
      have ⟨o', ho'⟩ : ∃ o', ops[(o.after[x]).on]? = some o' := by
        cases ho' : ops[(o.after[x]).on]? with
        | some o' => exact ⟨o', rfl⟩
        | none =>
          exfalso
          have h2 := hb.2
          cases n with
          | zero => unfold waitsT waits at h2; rw [ho'] at h2; cases h2
          | succ n => unfold waitsT waits at h2; rw [ho'] at h2; cases h2
      exact waitsT_not hc hi n _ hb.2 o' ho' (fun e he hbe => hc _ o' ho' hl e he hbe)
theorem till_first {i : Nat} {oi : Oper} {v : Value} (hi : ops[i]? = some oi) (hiL : i ≠ L) (hw : waitsT md ops 9 L i = true) (hsel : ∀ (j : Nat) (o : Oper) cs b, ops[j]? = some o → o.op ≠ .select cs b)
    (hQ : ∀ c a w, Q (.panic c) (a.put oi.dst v) w → Q (.panic c) a w) :
    ∀ (fuel : Nat) (listed : Array Bool) (a : Act) (w : World),
      (∀ j oj, ops[j]? = some oj → j ≠ i → listed.getD j true = false → (∀ e ∈ oj.after, Region.binds md e = true → e.on ≠ i) → oi.apart ops oj = true) →
      i ∈ Region.ready md ops listed → Closed md ops listed → listed.getD L true = false → YieldsIf P ops S oi v a → S w →
      Till P md ops Q S L fuel (listed.setIfInBounds i true) (a.put oi.dst v) w → Till P md ops Q S L (fuel + 1) listed a w := by
  intro fuel
  induction fuel with
  | zero =>
    intro listed a w _ hr _ _ hy hS H
    refine ⟨fun h => (by rw [h] at hr; cases hr), fun j hj => ?_⟩
    by_cases hji : j = i
    · subst hji; exact hy.wpOp hi hS ⟨fun _ _ => hS, H⟩
    · have := ready_mono hj hji
      rw [H.1] at this
      cases this
  | succ fuel ih =>
    intro listed a w hfree hr hcl hLu hy hS H
    refine ⟨fun h => (by rw [h] at hr; cases hr), fun j hj => ?_⟩
    by_cases hji : j = i
    · subst hji; exact hy.wpOp hi hS ⟨fun _ _ => hS, H⟩
    · have h1 := H.2 j (ready_mono hj hji)
      obtain ⟨hjun, oj, hoj, hall⟩ := mem_ready.1 hj
      have hnot : ∀ e ∈ oj.after, Region.binds md e = true → e.on ≠ i := fun e he hb heq => by
        have h1 := hall e he hb
        have h0 := (mem_ready.1 hr).1
        rw [heq] at h1
        rcases Nat.lt_or_ge i listed.size with h' | h'
        · simp [h'] at h0 h1; rw [h0] at h1; cases h1
        · simp [Array.getElem?_eq_none h'] at h1
      have hiu : listed.getD i false = false := by
        have h0 := (mem_ready.1 hr).1
        rcases Nat.lt_or_ge i listed.size with h' | h'
        · simp [h'] at h0 ⊢; exact h0
        · simp [Array.getElem?_eq_none h'] at h0
      have hjL : j ≠ L := by
        intro e
        subst e
        exact waitsT_not hcl hiu 9 j hw oj hoj hall
      have h2 := wpOp_putIf hoj (hfree j oj hoj hji hjun hnot) (fun cs b => hsel i oi cs b hi) (fun cs b => hsel j oj cs b hoj) hQ hy h1
      have hfree' : ∀ k ok, ops[k]? = some ok → k ≠ i → (listed.setIfInBounds j true).getD k true = false →
          (∀ e ∈ ok.after, Region.binds md e = true → e.on ≠ i) → oi.apart ops ok = true := fun k ok hk hki hun hno => by
        refine hfree k ok hk hki ?_ hno
        by_cases hjk : j = k
        · subst hjk; exact hjun
        · rw [getD_set_ne true hjk] at hun; exact hun
      have hLi : (listed.setIfInBounds i true).getD L true = false := by rw [getD_set_ne true hiL]; exact hLu
      have hLj : (listed.setIfInBounds j true).getD L true = false := by rw [getD_set_ne true hjL]; exact hLu
      refine wpOp_mono (fun a' w' h3 => ⟨fun hjL _ => h3.2.1 hjL hLi, ih (listed.setIfInBounds j true) a' w' hfree' (ready_mono hr (Ne.symm hji)) (hcl.next hj) hLj h3.1 (h3.2.1 hjL hLi) ?_⟩) h2
      rw [Array.setIfInBounds_comm _ _ hji]
      exact h3.2.2
theorem till_pure {i : Nat} {oi : Oper} {v : Value} (hi : ops[i]? = some oi) (hiL : i ≠ L) (hsel : ∀ (j : Nat) (o : Oper) cs b, ops[j]? = some o → o.op ≠ .select cs b)
    (hQ : ∀ c a w, Q (.panic c) (a.put oi.dst v) w → Q (.panic c) a w) :
    ∀ (fuel : Nat) (listed : Array Bool) (a : Act) (w : World),
      (∀ j oj, ops[j]? = some oj → j ≠ i → listed.getD j true = false → (∀ e ∈ oj.after, Region.binds md e = true → e.on ≠ i) → oi.apart ops oj = true) →
      i ∈ Region.ready md ops listed → YieldsIf P ops (fun _ => True) oi v a → (listed.getD L true = false → S w) →
      Till P md ops Q S L fuel (listed.setIfInBounds i true) (a.put oi.dst v) w → Till P md ops Q S L (fuel + 1) listed a w := by
  intro fuel
  induction fuel with
  | zero =>
    intro listed a w _ hr hy hS H
    refine ⟨fun h => (by rw [h] at hr; cases hr), fun j hj => ?_⟩
    by_cases hji : j = i
    · subst hji; exact hy.wpOp hi trivial ⟨fun _ h => hS h, H⟩
    · have := ready_mono hj hji
      rw [H.1] at this
      cases this
  | succ fuel ih =>
    intro listed a w hfree hr hy hS H
    refine ⟨fun h => (by rw [h] at hr; cases hr), fun j hj => ?_⟩
    by_cases hji : j = i
    · subst hji; exact hy.wpOp hi trivial ⟨fun _ h => hS h, H⟩
    · have h1 := H.2 j (ready_mono hj hji)
      obtain ⟨hjun, oj, hoj, hall⟩ := mem_ready.1 hj
      have hnot : ∀ e ∈ oj.after, Region.binds md e = true → e.on ≠ i := fun e he hb heq => by
        have h1 := hall e he hb
        have h0 := (mem_ready.1 hr).1
        rw [heq] at h1
        rcases Nat.lt_or_ge i listed.size with h' | h'
        · simp [h'] at h0 h1; rw [h0] at h1; cases h1
        · simp [Array.getElem?_eq_none h'] at h1
      have h2 := wpOp_putIf hoj (hfree j oj hoj hji hjun hnot) (fun cs b => hsel i oi cs b hi) (fun cs b => hsel j oj cs b hoj) hQ hy h1
      have hfree' : ∀ k ok, ops[k]? = some ok → k ≠ i → (listed.setIfInBounds j true).getD k true = false →
          (∀ e ∈ ok.after, Region.binds md e = true → e.on ≠ i) → oi.apart ops ok = true := fun k ok hk hki hun hno => by
        refine hfree k ok hk hki ?_ hno
        by_cases hjk : j = k
        · subst hjk; exact hjun
        · rw [getD_set_ne true hjk] at hun; exact hun
      have hLi : listed.getD L true = false → (listed.setIfInBounds i true).getD L true = false := fun h => by rw [getD_set_ne true hiL]; exact h
      refine wpOp_mono (fun a' w' h3 => ⟨fun hjL hu => h3.2.1 hjL (hLi hu), ih (listed.setIfInBounds j true) a' w' hfree' (ready_mono hr (Ne.symm hji)) h3.1 (fun hu => ?_) ?_⟩) h2
      · by_cases hjL : j = L
        · subst hjL
          rcases Nat.lt_or_ge j listed.size with h' | h'
          · simp [h'] at hu
          · simp [Array.getElem?_eq_none h'] at hjun
        · exact h3.2.1 hjL (hLi (by rw [getD_set_ne true hjL] at hu; exact hu))
      · rw [Array.setIfInBounds_comm _ _ hji]
        exact h3.2.2
theorem till_take (i : Nat) {oi : Oper} {v : Value} {fuel : Nat} {listed : Array Bool} {a : Act} {w : World} (hi : ops[i]? = some oi) (hiL : i ≠ L) (hw : (waitsT md ops 9 L i && closedB md ops listed) = true)
    (hs : Region.noSelect ops = true) (hf : Region.free md ops listed i = true) (hr : (Region.ready md ops listed).contains i = true) (hu : listed.getD L true = false)
    (hQ : ∀ c a w, Q (.panic c) (a.put oi.dst v) w → Q (.panic c) a w) (hy : YieldsIf P ops S oi v a) (hS : S w)
    (h : Till P md ops Q S L fuel (listed.setIfInBounds i true) (a.put oi.dst v) w) : Till P md ops Q S L (fuel + 1) listed a w :=
  till_first hi hiL (by simp only [Bool.and_eq_true] at hw; exact hw.1) (Region.noSelect_spec hs) hQ fuel listed a w (Region.free_spec hi hf) (by simpa using hr) (closed_of (by simp only [Bool.and_eq_true] at hw; exact hw.2)) hu hy hS h
theorem till_go (i : Nat) {oi : Oper} {v : Value} {fuel : Nat} {listed : Array Bool} {a : Act} {w : World} (hi : ops[i]? = some oi) (hiL : i ≠ L)
    (hs : Region.noSelect ops = true) (hf : Region.free md ops listed i = true) (hr : (Region.ready md ops listed).contains i = true)
    (hQ : ∀ c a w, Q (.panic c) (a.put oi.dst v) w → Q (.panic c) a w) (hy : YieldsIf P ops (fun _ => True) oi v a) (hS : S w)
    (h : Till P md ops Q S L fuel (listed.setIfInBounds i true) (a.put oi.dst v) w) : Till P md ops Q S L (fuel + 1) listed a w :=
  till_pure hi hiL (Region.noSelect_spec hs) hQ fuel listed a w (Region.free_spec hi hf) (by simpa using hr) hy (fun _ => hS) h
theorem till_step (i : Nat) {o : Oper} {fuel : Nat} {listed : Array Bool} {a : Act} {w : World} (ho : ops[i]? = some o) (hiL : i ≠ L) (hr : Region.ready md ops listed = [i])
    (h : ∀ K' : Act → World → Prop, Shut (∀ a w, S w → (S w → Till P md ops Q S L fuel (listed.setIfInBounds i true) a w) → K' a w) → if Region.wanted o (yielded ops a.tmps) = true then Oper.wp P o a w K' Q else K' (a.put o.dst undef) w) :
    Till P md ops Q S L (fuel + 1) listed a w := by
  refine ⟨fun e => (by rw [hr] at e; cases e), fun j hj => ?_⟩
  rw [hr] at hj
  obtain rfl : j = i := by simpa using hj
  exact wpOp_step ho (fun K' hK => h K' (fun a w hS hW => hK a w ⟨fun _ _ => hS, hW hS⟩))
theorem till_last {o : Oper} {listed : Array Bool} {a : Act} {w : World} (ho : ops[L]? = some o) (hr : Region.ready md ops listed = [L]) (hd : Region.ready md ops (listed.setIfInBounds L true) = [])
    (h : ∀ K' : Act → World → Prop, Shut (∀ a w, Q .normal a w → K' a w) → if Region.wanted o (yielded ops a.tmps) = true then Oper.wp P o a w K' Q else K' (a.put o.dst undef) w) (fuel : Nat) :
    Till P md ops Q S L (fuel + 1) listed a w := by
  refine ⟨fun e => (by rw [hr] at e; cases e), fun j hj => ?_⟩
  rw [hr] at hj
  obtain rfl : j = L := by simpa using hj
  refine wpOp_step ho (fun K' hK => h K' (fun a w hQ => hK a w ⟨fun e => absurd rfl e, ?_⟩))
  cases fuel with
  | zero => exact ⟨hd, hQ⟩
  | succ f => exact ⟨fun _ => hQ, by rw [hd]; simp⟩
theorem wp_region_till (L : Nat) (S : World → Prop) {id : Nat} {a : Act} {w : World} (hm : P.follows .mixedOrders = true) (hS : S w.drew)
    (h : S w.drew → Till P .any ops Q S L ops.size (Array.replicate ops.size false) a w.drew) : (Code.region id ops true).wp P Q a w :=
  wp_region_any hm (wpAny_of_till _ _ _ _ (h hS))
end
end Go.Proofs.YtcgpgflnihjpiagGreat
namespace Go.Proofs.YtcgpgflnihjpiagGreat
open Go.RowKit
def Hs (w : World) (a : Option Addr) (n : Nat) (H : List M.Hd) : Prop :=
  H.length = n ∧ (n = 0 ∨ ∃ b off, a = some ⟨b, off, none⟩ ∧ b < w.heap.size ∧ ∀ i, i < n → w.cell? ⟨b, off + i * 2, none⟩ = some (.string (H.getD i M.hd0).1) ∧ w.cell? ⟨b, off + i * 2 + 1, none⟩ = some (.int .i64 (H.getD i M.hd0).2) ∧ (H.getD i M.hd0).1.size ≤ 9223372036854775807)
theorem Hs.below {w w' : World} {a : Option Addr} {n : Nat} {H : List M.Hd} (h : Hs w a n H) {B : Nat} (hb : Below B w w') (hB : w.heap.size ≤ B) : Hs w' a n H := by
  obtain ⟨h1, h2⟩ := h
  refine ⟨h1, ?_⟩
  rcases h2 with h2 | ⟨b, off, ha, hlt, hc⟩
  · exact Or.inl h2
  · refine Or.inr ⟨b, off, ha, Nat.lt_of_lt_of_le hlt hb.size, fun i hi => ?_⟩
    rw [hb.cell (p := ⟨b, off + i * 2, none⟩) (by show b < B; omega), hb.cell (p := ⟨b, off + i * 2 + 1, none⟩) (by show b < B; omega)]
    exact hc i hi
theorem Hs.cases {w : World} {a : Option Addr} {n : Nat} {H : List M.Hd} (h : Hs w a n H) : (n = 0 ∧ H = []) ∨ ∃ b off, a = some ⟨b, off, none⟩ ∧ 0 < n ∧ H.length = n ∧ b < w.heap.size ∧ ∀ i, i < n → w.cell? ⟨b, off + i * 2, none⟩ = some (.string (H.getD i M.hd0).1) ∧ w.cell? ⟨b, off + i * 2 + 1, none⟩ = some (.int .i64 (H.getD i M.hd0).2) ∧ (H.getD i M.hd0).1.size ≤ 9223372036854775807 := by
  obtain ⟨h1, h2⟩ := h
  by_cases hn : n = 0
  · exact Or.inl ⟨hn, List.eq_nil_of_length_eq_zero (by omega)⟩
  · rcases h2 with h2 | ⟨b, off, ha, hlt, hc⟩
    · exact absurd h2 hn
    · exact Or.inr ⟨b, off, ha, by omega, h1, hlt, hc⟩
theorem Hs.small {w : World} {a : Option Addr} {n : Nat} {H : List M.Hd} (h : Hs w a n H) : ∀ x ∈ H, x.1.size ≤ 9223372036854775807 := by
  intro x hx
  obtain ⟨i, hi, e⟩ := List.getElem_of_mem hx
  rcases h.cases with ⟨_, rfl⟩ | ⟨b, off, _, _, hl, _, hc⟩
  · simp at hi
  · have := (hc i (by omega)).2.2
    rw [show H.getD i M.hd0 = x by simp [List.getD, hi, e]] at this
    exact this
def Asks (g : Nat) (cs : List Value) (p : M.Hd → Bool) (H : List M.Hd) (w : World) : Prop :=
  ∀ W x, x ∈ H → Below w.heap.size w W → Calls Tryz.prog g (.agg #[.string x.1, .int .i64 x.2] :: cs).toArray W fun e w' => e = .returned (.bool (p x)) ∧ Below W.heap.size W w'
theorem index_none (fn : Value) (a : Option Addr) (cap : Nat) (w : World) :
    Calls Tryz.prog 59 #[.slice a 0 cap, fn] w fun e w' => e = .returned (.int .i64 (-1)) ∧ w' = w := by
  go_enter Tryz.func59, Tryz.ntmps59
  go_wp2
  refine wp_loop_rounds 1 ?_
  rw [rounds_succ]
  go_wp2
  go_ret
  exact ⟨rfl, rfl⟩
set_option maxHeartbeats 2000000 in
theorem index_some (g : Nat) (cs : List Value) (eg : ∀ args w, (callFunc g args).run Tryz.prog w = .ok (.enter g args) w) (p : M.Hd → Bool) (b off n cap : Nat) (H : List M.Hd) (w : World) (hm : n ≤ 9223372036854775807) (hl : H.length = n) (hB : b < w.heap.size)
    (hc : ∀ i, i < n → w.cell? ⟨b, off + i * 2, none⟩ = some (.string (H.getD i M.hd0).1) ∧ w.cell? ⟨b, off + i * 2 + 1, none⟩ = some (.int .i64 (H.getD i M.hd0).2) ∧ (H.getD i M.hd0).1.size ≤ 9223372036854775807) (hp : Asks g cs p H w) :
    Calls Tryz.prog 59 #[.slice (some ⟨b, off, none⟩) n cap, .func (.func g) #[] cs.toArray] w fun e w' => e = .returned (.int .i64 (M.idxF p H 0)) ∧ Below w.heap.size w w' := by
  have HC : Aside (∀ i, i < n → w.cell? ⟨b, off + i * 2, none⟩ = some (.string (H.getD i M.hd0).1) ∧ w.cell? ⟨b, off + i * 2 + 1, none⟩ = some (.int .i64 (H.getD i M.hd0).2) ∧ (H.getD i M.hd0).1.size ≤ 9223372036854775807) := hc
  have HL : Aside (H.length = n) := hl
  have HP : Aside (Asks g cs p H w) := hp
  clear hc hl hp
  go_enter Tryz.func59, Tryz.ntmps59
  go_wp2
  go_loopg [8] n (fun g i wr => ∃ (k : Nat), k + g = n ∧ i = .int .i64 k ∧ Below w.heap.size w wr ∧ Aside (M.idxF p (H.drop k) k = M.idxF p H 0))
  case atStart => exact ⟨0, by omega, rfl, Below.refl _ _, by simp [Aside]⟩
  case round =>
    obtain ⟨k, hk, rfl, hbel, A⟩ := hrel
    by_cases hlt : k < n
    · obtain ⟨x, hx⟩ : ∃ x, H.getD k M.hd0 = x := ⟨_, rfl⟩
      have c0 : wr.cell? ⟨b, off + k * 2, none⟩ = some (.string x.1) := by rw [hbel.cell (p := ⟨b, off + k * 2, none⟩) hB, (HC.out k hlt).1, hx]
      have c1 : wr.cell? ⟨b, off + k * 2 + 1, none⟩ = some (.int .i64 x.2) := by rw [hbel.cell (p := ⟨b, off + k * 2 + 1, none⟩) hB, (HC.out k hlt).2.1, hx]
      have hmem : x ∈ H := by rw [← hx]; have := HL.out; simp [List.getD, this, hlt]
      have LH : Hid (Calls Tryz.prog g (.agg #[.string x.1, .int .i64 x.2] :: cs).toArray wr fun e w' => e = .returned (.bool (p x)) ∧ Below wr.heap.size wr w') := HP.out wr x hmem hbel
      have HX : Aside (H.getD k M.hd0 = x) := hx
      obtain ⟨t, ht⟩ : ∃ t, p x = t := ⟨_, rfl⟩
      rw [ht] at LH
      have HT : Aside (p x = t) := ht
      have hki : (k : Int) < (n : Int) := by omega
      clear hx ht hmem
      cases t with
      | true =>
        go_wp2_with fail
        refine LH.out.mono ?_
        rintro e w1 ⟨rfl, hb1⟩
        go_wp2
        go_ret
        exact ⟨ret_int (by rw [← A.out, M.idxF_yes p H k M.hd0 (by rw [HL.out]; exact hlt) (by rw [HX.out]; exact HT.out)]), hbel.trans (hb1.mono hbel.size)⟩
      | false =>
        go_wp2_with fail
        refine LH.out.mono ?_
        rintro e w1 ⟨rfl, hb1⟩
        go_wp2
        go_roundg (gk - 1)
        case measure => omega
        case rel => exact ⟨k + 1, by omega, by go_num, hbel.trans (hb1.mono hbel.size), by unfold Aside; rw [← A.out, M.idxF_no p H k M.hd0 (by rw [HL.out]; exact hlt) (by rw [HX.out]; exact HT.out)]⟩
    · go_wp2
      go_ret
      exact ⟨ret_int (by rw [← A.out, M.idxF_end p H k (by rw [HL.out]; omega)]), hbel⟩
theorem index_any (g : Nat) (cs : List Value) (eg : ∀ args w, (callFunc g args).run Tryz.prog w = .ok (.enter g args) w) (p : M.Hd → Bool) (a : Option Addr) (n cap : Nat) (H : List M.Hd) (w : World) (h : Hs w a n H) (hm : n ≤ 9223372036854775807) (hp : Asks g cs p H w) :
    Calls Tryz.prog 59 #[.slice a n cap, .func (.func g) #[] cs.toArray] w fun e w' => e = .returned (.int .i64 (M.idxF p H 0)) ∧ Below w.heap.size w w' := by
  rcases h.cases with ⟨rfl, rfl⟩ | ⟨b, off, rfl, hn, hl, hB, hc⟩
  · refine (index_none _ a cap w).mono ?_
    rintro e w' ⟨rfl, rfl⟩
    exact ⟨rfl, Below.refl _ _⟩
  · exact index_some g cs eg p b off n cap H w hm hl hB hc hp
theorem hcontains_any (g : Nat) (cs : List Value) (eg : ∀ args w, (callFunc g args).run Tryz.prog w = .ok (.enter g args) w) (p : M.Hd → Bool) (a : Option Addr) (n cap : Nat) (H : List M.Hd) (w : World) (h : Hs w a n H) (hm : n ≤ 9223372036854775807) (hp : Asks g cs p H w) :
    Calls Tryz.prog 30 #[.slice a n cap, .func (.func g) #[] cs.toArray] w fun e w' => e = .returned (.bool (H.any p)) ∧ Below w.heap.size w w' := by
  have H1 : Hid (Calls Tryz.prog 59 #[.slice a n cap, .func (.func g) #[] cs.toArray] w fun e w' => e = .returned (.int .i64 (M.idxF p H 0)) ∧ Below w.heap.size w w') := index_any g cs eg p a n cap H w h hm hp
  obtain ⟨r, hr⟩ : ∃ r, M.idxF p H 0 = r := ⟨_, rfl⟩
  have h2 := M.idxF_neg p H 0
  rw [hr] at h2 H1
  have H2 : Hid (0 ≤ r ↔ H.any p = true) := h2
  clear hr h2 hp h
  go_enter Tryz.func30, Tryz.ntmps30
  go_wp2_with fail
  refine H1.out.mono ?_
  rintro e w' ⟨rfl, hb⟩
  go_wp2
  go_ret
  refine ⟨ret_bool ?_, hb⟩
  rw [Bool.eq_iff_iff, ← H2.out]
  simp
theorem check_many (a : Option Addr) (n cap : Nat) (w : World) (h : 40 < n) (hm : n ≤ 9223372036854775807) :
    Calls Tryz.prog 47 #[.slice a n cap] w fun e w' => e = .returned (.int .i64 2) ∧ w' = w := by
  go_enter Tryz.func47, Tryz.ntmps47
  go_wp2
  go_ret
  exact ⟨rfl, rfl⟩
theorem check_none (a : Option Addr) (cap : Nat) (w : World) :
    Calls Tryz.prog 47 #[.slice a 0 cap] w fun e w' => e = .returned (.int .i64 0) ∧ w' = w := by
  go_enter Tryz.func47, Tryz.ntmps47
  go_wp2
  refine wp_loop_rounds 1 ?_
  rw [rounds_succ]
  go_wp2
  go_ret
  exact ⟨rfl, rfl⟩
set_option maxHeartbeats 1000000 in
theorem check_some (b off n cap : Nat) (l : List (Int × Int)) (w : World) (hn : n ≤ 40) (hl : l.length = n) (hB : b < w.heap.size)
    (hc : ∀ i, i < n → w.cell? ⟨b, off + i * 2, none⟩ = some (.int .i64 (l.getD i (0, 0)).1) ∧ w.cell? ⟨b, off + i * 2 + 1, none⟩ = some (.int .i64 (l.getD i (0, 0)).2)) :
    Calls Tryz.prog 47 #[.slice (some ⟨b, off, none⟩) n cap] w fun e w' => e = .returned (.int .i64 (M.chkFrom (-1) l)) ∧ Below w.heap.size w w' := by
  have HC : Aside (∀ i, i < n → w.cell? ⟨b, off + i * 2, none⟩ = some (.int .i64 (l.getD i (0, 0)).1) ∧ w.cell? ⟨b, off + i * 2 + 1, none⟩ = some (.int .i64 (l.getD i (0, 0)).2)) := hc
  have HL : Aside (l.length = n) := hl
  clear hc hl
  go_enter Tryz.func47, Tryz.ntmps47
  go_wp2
  go_loopg [3, 11] n (fun g ah i wr => ∃ (k : Nat) (q : Int), k + g = n ∧ i = .int .i64 k ∧ ah = .int .i64 q ∧ Below w.heap.size w wr ∧ Aside (M.chkFrom q (l.drop k) = M.chkFrom (-1) l))
  case atStart => exact ⟨0, -1, by omega, rfl, rfl, Below.refl _ _, by simp [Aside]⟩
  case round =>
    obtain ⟨k, q, hk, rfl, rfl, hbel, A⟩ := hrel
    have hsz := hbel.size
    by_cases hlt : k < n
    · obtain ⟨x, y, hxy⟩ : ∃ x y, l.getD k (0, 0) = (x, y) := ⟨_, _, rfl⟩
      have c0 : wr.cell? ⟨b, off + k * 2, none⟩ = some (.int .i64 x) := by rw [hbel.cell (p := ⟨b, off + k * 2, none⟩) hB, (HC.out k hlt).1, hxy]
      have c1 : wr.cell? ⟨b, off + k * 2 + 1, none⟩ = some (.int .i64 y) := by rw [hbel.cell (p := ⟨b, off + k * 2 + 1, none⟩) hB, (HC.out k hlt).2, hxy]
      have HXY : Aside (l.getD k (0, 0) = (x, y)) := hxy
      clear hxy
      go_wp2
      all_goals first
        | (go_ret
           exact ⟨ret_int (A.out.symm.trans (M.chkFrom_bad q l k (by rw [HL.out]; exact hlt) x y HXY.out (by omega))).symm, hbel.alloc hsz _⟩)
        | (go_roundg (gk - 1)
           case measure => omega
           case rel => exact ⟨k + 1, x, by omega, by go_num, rfl, hbel.alloc hsz _, by unfold Aside; rw [← A.out, M.chkFrom_good q l k (by rw [HL.out]; exact hlt) x y HXY.out (by omega) (by omega) (by omega) (by omega)]⟩)
    · go_wp2
      go_ret
      exact ⟨ret_int (A.out.symm.trans (M.chkFrom_end q l k (by rw [HL.out]; omega))).symm, hbel⟩
theorem check_any (a : Option Addr) (n cap : Nat) (l : List (Int × Int)) (w : World) (h : Rd w a n l) (hm : n ≤ 9223372036854775807) :
    Calls Tryz.prog 47 #[.slice a n cap] w fun e w' => e = .returned (.int .i64 (M.chk l)) ∧ Below w.heap.size w w' := by
  by_cases h40 : 40 < n
  · refine (check_many a n cap w h40 hm).mono ?_
    rintro e w' ⟨rfl, rfl⟩
    exact ⟨by rw [M.chk_many l (by rw [h.1]; exact h40)], Below.refl _ _⟩
  · have e := M.chk_few l (by rw [h.1]; omega)
    rcases h.cases with ⟨rfl, rfl⟩ | ⟨b, off, rfl, hn, hl, hB, hc⟩
    · refine (check_none a cap w).mono ?_
      rintro e w' ⟨rfl, rfl⟩
      exact ⟨rfl, Below.refl _ _⟩
    · rw [e]
      exact check_some b off n cap l w (by omega) hl hB hc
def Cm (w : World) (a : Option Addr) (n : Nat) (L : List M.Com) : Prop :=
  L.length = n ∧ (n = 0 ∨ ∃ b off, a = some ⟨b, off, none⟩ ∧ b < w.heap.size ∧ ∀ i, i < n → ∃ a1 n1 c1 a2 n2 c2, w.cell? ⟨b, off + i * 2, none⟩ = some (.slice a1 n1 c1) ∧ w.cell? ⟨b, off + i * 2 + 1, none⟩ = some (.slice a2 n2 c2) ∧ Rd w a1 n1 (L.getD i ([], [])).1 ∧ Ri w a2 n2 (L.getD i ([], [])).2 ∧ n1 ≤ 9223372036854775807 ∧ n2 ≤ 9223372036854775807)
theorem Cm.below {w w' : World} {a : Option Addr} {n : Nat} {L : List M.Com} (h : Cm w a n L) {B : Nat} (hb : Below B w w') (hB : w.heap.size ≤ B) : Cm w' a n L := by
  obtain ⟨h1, h2⟩ := h
  refine ⟨h1, ?_⟩
  rcases h2 with h2 | ⟨b, off, ha, hlt, hc⟩
  · exact Or.inl h2
  · refine Or.inr ⟨b, off, ha, Nat.lt_of_lt_of_le hlt hb.size, fun i hi => ?_⟩
    obtain ⟨a1, n1, c1, a2, n2, c2, k1, k2, k3, k4, k5⟩ := hc i hi
    exact ⟨a1, n1, c1, a2, n2, c2, (hb.cell (p := ⟨b, off + i * 2, none⟩) (by show b < B; omega)).trans k1, (hb.cell (p := ⟨b, off + i * 2 + 1, none⟩) (by show b < B; omega)).trans k2, k3.below hb hB, k4.below hb hB, k5⟩
theorem Cm.cases {w : World} {a : Option Addr} {n : Nat} {L : List M.Com} (h : Cm w a n L) : (n = 0 ∧ L = []) ∨ ∃ b off, a = some ⟨b, off, none⟩ ∧ 0 < n ∧ L.length = n ∧ b < w.heap.size ∧ ∀ i, i < n → ∃ a1 n1 c1 a2 n2 c2, w.cell? ⟨b, off + i * 2, none⟩ = some (.slice a1 n1 c1) ∧ w.cell? ⟨b, off + i * 2 + 1, none⟩ = some (.slice a2 n2 c2) ∧ Rd w a1 n1 (L.getD i ([], [])).1 ∧ Ri w a2 n2 (L.getD i ([], [])).2 ∧ n1 ≤ 9223372036854775807 ∧ n2 ≤ 9223372036854775807 := by
  obtain ⟨h1, h2⟩ := h
  by_cases hn : n = 0
  · exact Or.inl ⟨hn, List.eq_nil_of_length_eq_zero (by omega)⟩
  · rcases h2 with h2 | ⟨b, off, ha, hlt, hc⟩
    · exact absurd h2 hn
    · exact Or.inr ⟨b, off, ha, by omega, h1, hlt, hc⟩
theorem right_many (a : Option Addr) (n cap : Nat) (k : Int) (w : World) (h : 2 < n) (hm : n ≤ 9223372036854775807) :
    Calls Tryz.prog 58 #[.slice a n cap, .int .i64 k] w fun e w' => e = .returned (.bool false) ∧ w' = w := by
  go_enter Tryz.func58, Tryz.ntmps58
  go_wp2
  go_ret
  exact ⟨rfl, rfl⟩
theorem right_none (a : Option Addr) (cap : Nat) (k : Int) (w : World) :
    Calls Tryz.prog 58 #[.slice a 0 cap, .int .i64 k] w fun e w' => e = .returned (.bool true) ∧ w' = w := by
  go_enter Tryz.func58, Tryz.ntmps58
  go_wp2
  refine wp_loop_rounds 1 ?_
  rw [rounds_succ]
  go_wp2
  go_ret
  exact ⟨rfl, rfl⟩
set_option maxHeartbeats 1000000 in
theorem right_some (b off n cap : Nat) (l : List Int) (c : Nat) (w : World) (hn : n ≤ 2) (hl : l.length = n) (hc : ∀ i, i < n → w.cell? ⟨b, off + i, none⟩ = some (.int .i64 (l.getD i 0))) :
    Calls Tryz.prog 58 #[.slice (some ⟨b, off, none⟩) n cap, .int .i64 c] w fun e w' => e = .returned (.bool (M.ris c (-1) l)) ∧ w' = w := by
  have HC : Aside (∀ i, i < n → w.cell? ⟨b, off + i, none⟩ = some (.int .i64 (l.getD i 0))) := hc
  have HL : Aside (l.length = n) := hl
  clear hc hl
  go_enter Tryz.func58, Tryz.ntmps58
  go_wp2
  go_loopg [5, 13] n (fun g ah i wr => ∃ (k : Nat) (q : Int), k + g = n ∧ i = .int .i64 k ∧ ah = .int .i64 q ∧ wr = w ∧ Aside (M.ris c q (l.drop k) = M.ris c (-1) l))
  case atStart => exact ⟨0, -1, by omega, rfl, rfl, rfl, by simp [Aside]⟩
  case round =>
    obtain ⟨k, q, hk, rfl, rfl, rfl, A⟩ := hrel
    by_cases hlt : k < n
    · obtain ⟨x, hx⟩ : ∃ x, l.getD k 0 = x := ⟨_, rfl⟩
      have c0 := HC.out k hlt
      rw [hx] at c0
      have HX : Aside (l.getD k 0 = x) := hx
      clear hx
      go_wp2
      all_goals first
        | (go_ret
           exact ⟨ret_bool (A.out.symm.trans (M.ris_bad c q l k (by rw [HL.out]; exact hlt) x HX.out (by omega))).symm, rfl⟩)
        | (go_roundg (gk - 1)
           case measure => omega
           case rel => exact ⟨k + 1, x, by omega, by go_num, rfl, rfl, by unfold Aside; rw [← A.out, M.ris_good c q l k (by rw [HL.out]; exact hlt) x HX.out (by omega) (by omega)]⟩)
    · go_wp2
      go_ret
      exact ⟨ret_bool (A.out.symm.trans (M.ris_end c q l k (by rw [HL.out]; omega))).symm, rfl⟩
theorem right_any (a : Option Addr) (n cap : Nat) (l : List Int) (c : Nat) (w : World) (h : Ri w a n l) (hm : n ≤ 9223372036854775807) :
    Calls Tryz.prog 58 #[.slice a n cap, .int .i64 c] w fun e w' => e = .returned (.bool (M.pr c l)) ∧ w' = w := by
  by_cases h2 : 2 < n
  · rw [M.pr_long c l (by rw [h.1]; exact h2)]
    exact right_many a n cap c w h2 hm
  · rw [M.pr_short c l (by rw [h.1]; omega)]
    rcases h.cases with ⟨rfl, rfl⟩ | ⟨b, off, rfl, hn, hl, hB, hc⟩
    · exact right_none a cap c w
    · exact right_some b off n cap l c w (by omega) hl hc
theorem dcheck_many (a : Option Addr) (n cap : Nat) (w : World) (h : 14 < n) (hm : n ≤ 9223372036854775807) :
    Calls Tryz.prog 29 #[.slice a n cap] w fun e w' => e = .returned (.int .i64 2) ∧ w' = w := by
  go_enter Tryz.func29, Tryz.ntmps29
  go_wp2
  go_ret
  exact ⟨rfl, rfl⟩
theorem dcheck_none (a : Option Addr) (cap : Nat) (w : World) :
    Calls Tryz.prog 29 #[.slice a 0 cap] w fun e w' => e = .returned (.int .i64 0) ∧ w' = w := by
  go_enter Tryz.func29, Tryz.ntmps29
  go_wp2
  refine wp_loop_rounds 1 ?_
  rw [rounds_succ]
  go_wp2
  go_ret
  exact ⟨rfl, rfl⟩
set_option maxHeartbeats 4000000 in
theorem dcheck_some (b off n cap : Nat) (L : List M.Com) (w : World) (hn : n ≤ 14) (hl : L.length = n) (hB : b < w.heap.size)
    (hc : ∀ i, i < n → ∃ a1 n1 c1 a2 n2 c2, w.cell? ⟨b, off + i * 2, none⟩ = some (.slice a1 n1 c1) ∧ w.cell? ⟨b, off + i * 2 + 1, none⟩ = some (.slice a2 n2 c2) ∧ Rd w a1 n1 (L.getD i ([], [])).1 ∧ Ri w a2 n2 (L.getD i ([], [])).2 ∧ n1 ≤ 9223372036854775807 ∧ n2 ≤ 9223372036854775807) :
    Calls Tryz.prog 29 #[.slice (some ⟨b, off, none⟩) n cap] w fun e w' => e = .returned (.int .i64 (M.dchkF 0 L)) ∧ Below w.heap.size w w' := by
  have HC : Aside (∀ i, i < n → ∃ a1 n1 c1 a2 n2 c2, w.cell? ⟨b, off + i * 2, none⟩ = some (.slice a1 n1 c1) ∧ w.cell? ⟨b, off + i * 2 + 1, none⟩ = some (.slice a2 n2 c2) ∧ Rd w a1 n1 (L.getD i ([], [])).1 ∧ Ri w a2 n2 (L.getD i ([], [])).2 ∧ n1 ≤ 9223372036854775807 ∧ n2 ≤ 9223372036854775807) := hc
  have HL : Aside (L.length = n) := hl
  clear hc hl
  go_enter Tryz.func29, Tryz.ntmps29
  go_wp2
  go_loopg [11] n (fun g i wr => ∃ (k : Nat), k + g = n ∧ i = .int .i64 k ∧ Below w.heap.size w wr ∧ Aside (M.dchkF k (L.drop k) = M.dchkF 0 L))
  case atStart => exact ⟨0, by omega, rfl, Below.refl _ _, by simp [Aside]⟩
  case round =>
    obtain ⟨k, hk, rfl, hbel, A⟩ := hrel
    have hsz := hbel.size
    by_cases hlt : k < n
    · obtain ⟨a1, n1, c1, a2, n2, c2, q1, q2, r1, r2, m1, m2⟩ := HC.out k hlt
      obtain ⟨C, hC⟩ : ∃ C, L.getD k ([], []) = C := ⟨_, rfl⟩
      rw [hC] at r1 r2
      have c0 : wr.cell? ⟨b, off + k * 2, none⟩ = some (.slice a1 n1 c1) := (hbel.cell (p := ⟨b, off + k * 2, none⟩) hB).trans q1
      have c1' : wr.cell? ⟨b, off + k * 2 + 1, none⟩ = some (.slice a2 n2 c2) := (hbel.cell (p := ⟨b, off + k * 2 + 1, none⟩) hB).trans q2
      obtain ⟨Wa, hWa⟩ : ∃ Wa, Wa = wr.alloc (.cells #[.slice a1 n1 c1, .slice a2 n2 c2] 54) := ⟨_, rfl⟩
      have hba : Below w.heap.size w Wa := by rw [hWa]; exact hbel.alloc hsz _
      have q5 : Wa.cell? ⟨wr.heap.size, 1, none⟩ = some (.slice a2 n2 c2) := by rw [hWa]; simp [go_sem]
      have hWs : wr.heap.size < Wa.heap.size := by rw [hWa]; simp
      have HCh := check_any a1 n1 c1 C.1 Wa (r1.below hba (Nat.le_refl _)) m1
      have HX : Aside (L.getD k ([], []) = C) := hC
      have HWa : Hid (Wa = wr.alloc (.cells #[.slice a1 n1 c1, .slice a2 n2 c2] 54)) := hWa
      have H2 : Hid (Ri w a2 n2 C.2) := r2
      have HBA : Hid (Below w.heap.size w Wa) := hba
      have Q5 : Hid (Wa.cell? ⟨wr.heap.size, 1, none⟩ = some (.slice a2 n2 c2)) := q5
      clear hC hWa q5 hba r1 r2 q1 q2
      obtain ⟨e1, he1⟩ : ∃ e1, e1 = M.chk C.1 := ⟨_, rfl⟩
      rw [← he1] at HCh
      have HE1 : Hid (e1 = M.chk C.1) := he1
      have HH : Hid (Calls Tryz.prog 47 #[.slice a1 n1 c1] Wa fun e w' => e = .returned (.int .i64 e1) ∧ Below Wa.heap.size Wa w') := HCh
      clear he1 HCh
      by_cases hz : e1 = 0
      · have hne : (e1 != 0) = false := by simp [hz]
        have HZ : Hid (e1 = 0) := hz
        clear hz
        go_wp2_with fail
        rw [← HWa.out]
        refine HH.out.mono ?_
        rintro e w1 ⟨rfl, hb1⟩
        have q6 : w1.cell? ⟨wr.heap.size, 1, none⟩ = some (.slice a2 n2 c2) := (hb1.cell (p := ⟨wr.heap.size, 1, none⟩) hWs).trans Q5.out
        have hb2 : Below w.heap.size w w1 := HBA.out.trans (hb1.mono HBA.out.size)
        have HP := right_any a2 n2 c2 C.2 k w1 (H2.out.below hb2 (Nat.le_refl _)) m2
        obtain ⟨t, ht⟩ : ∃ t, t = M.pr k C.2 := ⟨_, rfl⟩
        rw [← ht] at HP
        have HT : Hid (t = M.pr k C.2) := ht
        have HPP : Hid (Calls Tryz.prog 58 #[.slice a2 n2 c2, .int .i64 k] w1 fun e w' => e = .returned (.bool t) ∧ w' = w1) := HP
        clear ht HP hb1
        go_wp2_with fail
        refine HPP.out.mono ?_
        rintro e w2 ⟨rfl, hw2⟩
        subst hw2
        cases t with
        | true =>
          go_wp2
          go_roundg (gk - 1)
          case measure => omega
          case rel => exact ⟨k + 1, by omega, by go_num, hb2, by unfold Aside; rw [← A.out, M.dchkF_good k L (by rw [HL.out]; exact hlt) C HX.out (by rw [← HE1.out]; exact HZ.out) HT.out.symm]⟩
        | false =>
          go_wp2
          go_ret
          exact ⟨ret_int (A.out.symm.trans (M.dchkF_form k L (by rw [HL.out]; exact hlt) C HX.out (by rw [← HE1.out]; exact HZ.out) HT.out.symm)).symm, hb2⟩
      · have hne : (e1 != 0) = true := by simp [hz]
        have HZ : Hid (e1 ≠ 0) := hz
        clear hz
        go_wp2_with fail
        rw [← HWa.out]
        refine HH.out.mono ?_
        rintro e w1 ⟨rfl, hb1⟩
        have hb2 : Below w.heap.size w w1 := HBA.out.trans (hb1.mono HBA.out.size)
        clear hb1
        go_wp2
        go_ret
        exact ⟨ret_int (by rw [← A.out, M.dchkF_bad k L (by rw [HL.out]; exact hlt) C HX.out (by rw [← HE1.out]; exact HZ.out)]; exact HE1.out), hb2⟩
    · go_wp2
      go_ret
      exact ⟨ret_int (A.out.symm.trans (M.dchkF_end k L (by rw [HL.out]; omega))).symm, hbel⟩
theorem dcheck_any (a : Option Addr) (n cap : Nat) (L : List M.Com) (w : World) (h : Cm w a n L) (hm : n ≤ 9223372036854775807) :
    Calls Tryz.prog 29 #[.slice a n cap] w fun e w' => e = .returned (.int .i64 (M.dchk L)) ∧ Below w.heap.size w w' := by
  by_cases h14 : 14 < n
  · refine (dcheck_many a n cap w h14 hm).mono ?_
    rintro e w' ⟨rfl, rfl⟩
    exact ⟨by rw [M.dchk_many L (by rw [h.1]; exact h14)], Below.refl _ _⟩
  · have e := M.dchk_few L (by rw [h.1]; omega)
    rcases h.cases with ⟨rfl, rfl⟩ | ⟨b, off, rfl, hn, hl, hB, hc⟩
    · refine (dcheck_none a cap w).mono ?_
      rintro e w' ⟨rfl, rfl⟩
      exact ⟨rfl, Below.refl _ _⟩
    · rw [e]
      exact dcheck_some b off n cap L w (by omega) hl hB hc
end Go.Proofs.YtcgpgflnihjpiagGreat
