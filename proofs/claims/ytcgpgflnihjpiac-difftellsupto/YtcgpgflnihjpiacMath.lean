/- Plain facts on rows (lists of two integers), with no program in sight. -/
import Derived.KernelRfl
namespace Go.Proofs.Ytcgpgflnihjpiac.M

/-- A row that may not stand behind a key. -/
def bad (ah : Int) (r : Int × Int) : Bool := decide (r.1 ≤ ah ∨ 99 < r.1 ∨ r.2 < 0 ∨ 996 < r.2)
/-- The error of rows behind a key. -/
def chkFrom (ah : Int) : List (Int × Int) → Int
  | [] => 0
  | r :: t => if bad ah r = true then 1 else chkFrom r.1 t
/-- The error of rows. -/
def chk (l : List (Int × Int)) : Int := if 40 < l.length then 2 else chkFrom (-1) l

/-- The key ahead of the k-th row. -/
def prev (l : List (Int × Int)) : Nat → Int
  | 0 => -1
  | k + 1 => (l.getD k (0, 0)).1

theorem chk_many (l : List (Int × Int)) (h : 40 < l.length) : chk l = 2 := by unfold chk; rw [if_pos h]
theorem chk_few (l : List (Int × Int)) (h : l.length ≤ 40) : chk l = chkFrom (-1) l := by unfold chk; rw [if_neg (by omega)]

theorem drop_at (l : List (Int × Int)) (k : Nat) (h : k < l.length) : l.drop k = l.getD k (0, 0) :: l.drop (k + 1) := by
  rw [List.drop_eq_getElem_cons h]; simp [List.getD, h]

theorem chkFrom_bad (ah : Int) (l : List (Int × Int)) (k : Nat) (h : k < l.length) (x y : Int) (e : l.getD k (0, 0) = (x, y)) (hb : x ≤ ah ∨ 99 < x ∨ y < 0 ∨ 996 < y) : chkFrom ah (l.drop k) = 1 := by
  rw [drop_at l k h, e, chkFrom, if_pos (by simp [bad]; exact hb)]
theorem chkFrom_good (ah : Int) (l : List (Int × Int)) (k : Nat) (h : k < l.length) (x y : Int) (e : l.getD k (0, 0) = (x, y)) (h1 : ah < x) (h2 : x ≤ 99) (h3 : 0 ≤ y) (h4 : y ≤ 996) : chkFrom ah (l.drop k) = chkFrom x (l.drop (k + 1)) := by
  rw [drop_at l k h, e, chkFrom, if_neg (by simp [bad]; omega)]
theorem chkFrom_end (ah : Int) (l : List (Int × Int)) (k : Nat) (h : l.length ≤ k) : chkFrom ah (l.drop k) = 0 := by
  rw [List.drop_eq_nil_of_le h]; rfl

/-- Right rows, but for how many they are. -/
def Ok (l : List (Int × Int)) : Prop := (∀ r ∈ l, 0 ≤ r.1 ∧ r.1 ≤ 99 ∧ 0 ≤ r.2 ∧ r.2 ≤ 996) ∧ l.Pairwise (fun a b => a.1 < b.1)

theorem chkFrom_zero (ah : Int) (l : List (Int × Int)) : chkFrom ah l = 0 ↔ (∀ r ∈ l, ah < r.1 ∧ r.1 ≤ 99 ∧ 0 ≤ r.2 ∧ r.2 ≤ 996) ∧ l.Pairwise (fun a b => a.1 < b.1) := by
  induction l generalizing ah with
  | nil => simp [chkFrom]
  | cons r t ih =>
    rw [chkFrom]
    by_cases hb : bad ah r = true
    · rw [if_pos hb]
      constructor
      · intro h; omega
      · rintro ⟨h, _⟩
        have := h r (by simp)
        simp [bad] at hb
        omega
    · rw [if_neg hb, ih]
      have hg : ah < r.1 ∧ r.1 ≤ 99 ∧ 0 ≤ r.2 ∧ r.2 ≤ 996 := by simp [bad] at hb; omega
      constructor
      · rintro ⟨h1, h2⟩
        refine ⟨fun q hq => ?_, List.pairwise_cons.2 ⟨fun q hq => (h1 q hq).1, h2⟩⟩
        rcases List.mem_cons.1 hq with rfl | hq
        · exact hg
        · have := h1 q hq; omega
      · rintro ⟨h1, h2⟩
        have h3 := List.pairwise_cons.1 h2
        exact ⟨fun q hq => ⟨h3.1 q hq, (h1 q (by simp [hq])).2⟩, h3.2⟩

theorem chk_zero (l : List (Int × Int)) : chk l = 0 ↔ l.length ≤ 40 ∧ Ok l := by
  unfold chk
  by_cases h : 40 < l.length
  · rw [if_pos h]; constructor
    · intro h; omega
    · rintro ⟨h, _⟩; omega
  · rw [if_neg h, chkFrom_zero]
    constructor
    · rintro ⟨h1, h2⟩; exact ⟨by omega, fun r hr => by have := h1 r hr; omega, h2⟩
    · rintro ⟨_, h1, h2⟩; exact ⟨fun r hr => by have := h1 r hr; omega, h2⟩

theorem chkFrom_range (ah : Int) (l : List (Int × Int)) : chkFrom ah l = 0 ∨ chkFrom ah l = 1 := by
  induction l generalizing ah with
  | nil => simp [chkFrom]
  | cons r t ih => rw [chkFrom]; split <;> simp [ih]

theorem getD_mem (l : List (Int × Int)) (i : Nat) (h : i < l.length) : l.getD i (0, 0) ∈ l := by
  simp [List.getD, h]

theorem Ok.asc {l : List (Int × Int)} (h : Ok l) (i j : Nat) (hij : i < j) (hj : j < l.length) : (l.getD i (0, 0)).1 < (l.getD j (0, 0)).1 := by
  have := List.pairwise_iff_getElem.1 h.2 i j (by omega) hj hij
  simpa [List.getD, hj, Nat.lt_trans hij hj] using this

theorem Ok.mono {l : List (Int × Int)} (h : Ok l) (i j : Nat) (hij : i ≤ j) (hj : j < l.length) : (l.getD i (0, 0)).1 ≤ (l.getD j (0, 0)).1 := by
  by_cases e : i = j
  · rw [e]; omega
  · have := h.asc i j (by omega) hj; omega

theorem Ok.tail {r : Int × Int} {t : List (Int × Int)} (h : Ok (r :: t)) : Ok t := ⟨fun q hq => h.1 q (by simp [hq]), (List.pairwise_cons.1 h.2).2⟩
theorem Ok.head {r : Int × Int} {t : List (Int × Int)} (h : Ok (r :: t)) : ∀ q ∈ t, r.1 < q.1 := (List.pairwise_cons.1 h.2).1

/-- The value of a key. -/
def find (key : Int) : List (Int × Int) → Int
  | [] => -1
  | r :: t => if r.1 = key then r.2 else find key t

theorem find_none (key : Int) (l : List (Int × Int)) (h : ∀ r ∈ l, r.1 ≠ key) : find key l = -1 := by
  induction l with
  | nil => rfl
  | cons r t ih => rw [find, if_neg (h r (by simp)), ih fun q hq => h q (by simp [hq])]

theorem find_mem (key : Int) (l : List (Int × Int)) (hk : l.Pairwise (fun a b => a.1 < b.1)) (r : Int × Int) (hr : r ∈ l) (e : r.1 = key) : find key l = r.2 := by
  induction l with
  | nil => simp at hr
  | cons q t ih =>
    rw [find]
    have h2 := List.pairwise_cons.1 hk
    rcases List.mem_cons.1 hr with rfl | hr
    · rw [if_pos e]
    · rw [if_neg (by have := h2.1 r hr; omega), ih h2.2 hr]

/-- What a search for a key has found. -/
def At (l : List (Int × Int)) (key : Int) (k : Nat) (t : Bool) : Prop :=
  k ≤ l.length ∧ (∀ i, i < k → (l.getD i (0, 0)).1 < key) ∧ (k < l.length → key ≤ (l.getD k (0, 0)).1) ∧ (t = true ↔ k < l.length ∧ (l.getD k (0, 0)).1 = key)

theorem At.yes {l : List (Int × Int)} {key : Int} {k : Nat} (h : At l key k true) : k < l.length ∧ (l.getD k (0, 0)).1 = key := h.2.2.2.1 rfl

theorem At.find_yes {l : List (Int × Int)} {key : Int} {k : Nat} (h : At l key k true) (ok : Ok l) : find key l = (l.getD k (0, 0)).2 :=
  find_mem key l ok.2 _ (getD_mem l k h.yes.1) h.yes.2

theorem mem_getD {l : List (Int × Int)} {r : Int × Int} (h : r ∈ l) : ∃ i, i < l.length ∧ l.getD i (0, 0) = r := by
  obtain ⟨i, hi, e⟩ := List.mem_iff_getElem.1 h
  exact ⟨i, hi, by simp [List.getD, hi, e]⟩

theorem At.find_no {l : List (Int × Int)} {key : Int} {k : Nat} (h : At l key k false) (ok : Ok l) : find key l = -1 := by
  refine find_none key l fun r hr e => ?_
  obtain ⟨i, hi, rfl⟩ := mem_getD hr
  by_cases hik : i < k
  · have := h.2.1 i hik; omega
  · have h3 := h.2.2.1 (by omega)
    have h4 := ok.mono k i (by omega) hi
    have h5 : (l.getD k (0, 0)).1 = key := by omega
    have := h.2.2.2.2 ⟨by omega, h5⟩
    simp at this

/-- The error that Find and Put share. -/
def asked (l : List (Int × Int)) (key : Int) : Int := if chk l ≠ 0 then chk l else if key < 0 ∨ 99 < key then 3 else 0
def findV (l : List (Int × Int)) (key : Int) : Int := if asked l key = 0 then find key l else 0
theorem asked_bad {l : List (Int × Int)} {key : Int} (h : chk l ≠ 0) : asked l key = chk l := by unfold asked; rw [if_pos h]
theorem asked_range {l : List (Int × Int)} {key : Int} (h : chk l = 0) (hk : key < 0 ∨ 99 < key) : asked l key = 3 := by unfold asked; rw [if_neg (by omega), if_pos hk]
theorem asked_ok {l : List (Int × Int)} {key : Int} (h : chk l = 0) (hk : 0 ≤ key) (hk2 : key ≤ 99) : asked l key = 0 := by unfold asked; rw [if_neg (by omega), if_neg (by omega)]
theorem asked_zero {l : List (Int × Int)} {key : Int} (h : asked l key = 0) : chk l = 0 ∧ 0 ≤ key ∧ key ≤ 99 := by
  unfold asked at h
  split at h
  · omega
  · split at h
    · omega
    · omega
theorem findV_no {l : List (Int × Int)} {key : Int} (h : asked l key ≠ 0) : findV l key = 0 := by unfold findV; rw [if_neg h]
theorem findV_ok {l : List (Int × Int)} {key : Int} (h : asked l key = 0) : findV l key = find key l := by unfold findV; rw [if_pos h]

theorem find_step (key : Int) (l : List (Int × Int)) (k : Nat) (h : k < l.length) (x y : Int) (e : l.getD k (0, 0) = (x, y)) (hx : x ≠ key) : find key (l.drop k) = find key (l.drop (k + 1)) := by
  rw [drop_at l k h, e, find, if_neg hx]
theorem find_here (key : Int) (l : List (Int × Int)) (k : Nat) (h : k < l.length) (x y : Int) (e : l.getD k (0, 0) = (x, y)) (hx : x = key) : find key (l.drop k) = y := by
  rw [drop_at l k h, e, find, if_pos hx]
theorem find_end (key : Int) (l : List (Int × Int)) (k : Nat) (h : l.length ≤ k) : find key (l.drop k) = -1 := by
  rw [List.drop_eq_nil_of_le h]; rfl

end Go.Proofs.Ytcgpgflnihjpiac.M
