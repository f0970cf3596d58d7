/- Plain facts on heads and repos, with no program in sight. -/
import Derived.Test.YtcgpgflnihjpiaeDag0
import Derived.PlainAid
import Derived.Lib.DecodeN
import Derived.Laws.RangeString
namespace Go.Proofs.Ytcgpgflnihjpiae.M
open Go.PlainAid

/-- A head: its name, its commit's number. -/
abbrev Hd := ByteArray × Int
def hd0 : Hd := (ByteArray.empty, 0)
/-- From byte k on: letters alone. -/
def lets (s : ByteArray) (k : Nat) : Bool := decide (∀ i, i < s.size → k ≤ i → 97 ≤ bt s i ∧ bt s i ≤ 122)
theorem lets_end (s : ByteArray) (k : Nat) (h : s.size ≤ k) : lets s k = true := by
  unfold lets; rw [decide_eq_true]; intro i h1 h2; omega
theorem lets_bad (s : ByteArray) (k : Nat) (h : k < s.size) (hb : bt s k < 97 ∨ 122 < bt s k) : lets s k = false := by
  unfold lets; rw [decide_eq_false]; intro hh; have := hh k h (Nat.le_refl _); omega
theorem lets_good (s : ByteArray) (k : Nat) (h1 : 97 ≤ bt s k) (h2 : bt s k ≤ 122) : lets s k = lets s (k + 1) := by
  unfold lets
  rw [decide_eq_decide]
  constructor
  · intro h i a b; exact h i a (by omega)
  · intro h i a b
    by_cases e : i = k
    · subst e; exact ⟨h1, h2⟩
    · exact h i a (by omega)
/-- A name. -/
def nam (s : ByteArray) : Bool := decide (0 < s.size) && (decide (s.size ≤ 8) && lets s 0)
theorem nam_none (s : ByteArray) (h : s.size = 0) : nam s = false := by unfold nam; rw [decide_eq_false (by omega)]; rfl
theorem nam_long (s : ByteArray) (h : 8 < s.size) : nam s = false := by unfold nam; rw [decide_eq_false (p := s.size ≤ 8) (by omega)]; simp
theorem nam_few (s : ByteArray) (h0 : 0 < s.size) (h : s.size ≤ 8) : nam s = lets s 0 := by unfold nam; rw [decide_eq_true h0, decide_eq_true h]; rfl
theorem bt_decode (s : ByteArray) (k : Nat) (h : k < s.size) (hb : bt s k < 128) : Utf8.decode s k = ((bt s k).toNat, 1) := by
  have e : bt s k = ((s[k]'h).toNat : Int) := (get_bt s k h).symm
  rw [decode_ascii s k h (by omega), e]; rfl
theorem far_decode (s : ByteArray) (k : Nat) (h : k < s.size) (hb : 128 ≤ bt s k) : 128 ≤ (Utf8.decode s k).1 := by
  have e : bt s k = ((s[k]'h).toNat : Int) := (get_bt s k h).symm
  have e2 : s.get! k = s[k]'h := by simp [ByteArray.get!, getElem!_pos, h]; rfl
  rw [Lib.decode_at, e2]
  have h8 : 128 ≤ (s[k]'h).toNat := by omega
  unfold Lib.decodeN
  repeat' split
  all_goals (simp only [ge_iff_le] at *; omega)

def less (s t : ByteArray) : Bool := Op.bytesLess s.toList t.toList
def alike (s t : ByteArray) : Bool := s.toList == t.toList
/-- Names that rise behind a name. -/
def riseF (s : ByteArray) : List Hd → Bool
  | [] => true
  | h :: t => less s h.1 && riseF h.1 t
def rise : List Hd → Bool
  | [] => true
  | h :: t => riseF h.1 t
def inside (n : Nat) (H : List Hd) : Bool := H.all fun h => decide (0 ≤ h.2 ∧ h.2 < (n : Int))
def named (H : List Hd) : Bool := H.all fun h => nam h.1
/-- The error of a repo. -/
def rchk (C : List Com) (H : List Hd) : Int :=
  if dchk C ≠ 0 then dchk C else if 4 < H.length then 2 else if named H = false then 4 else if inside C.length H = false then 1 else if rise H = false then 1 else 0
def idxF {α : Type} (p : α → Bool) : List α → Nat → Int
  | [], _ => -1
  | h :: t, k => if p h = true then (k : Int) else idxF p t (k + 1)
theorem hdrop (l : List Hd) (k : Nat) (h : k < l.length) : l.drop k = l.getD k hd0 :: l.drop (k + 1) := by
  rw [List.drop_eq_getElem_cons h]; simp [List.getD, h]
theorem idxF_neg {α : Type} (p : α → Bool) (l : List α) (k : Nat) : 0 ≤ idxF p l k ↔ l.any p = true := by
  induction l generalizing k with
  | nil => simp [idxF]
  | cons h t ih =>
    unfold idxF
    by_cases hp : p h = true
    · simp [hp]
    · rw [if_neg hp, ih]; simp [hp]
theorem idxF_range {α : Type} (p : α → Bool) (l : List α) (k : Nat) : idxF p l k = -1 ∨ ((k : Int) ≤ idxF p l k ∧ idxF p l k < ((k + l.length : Nat) : Int)) := by
  induction l generalizing k with
  | nil => exact Or.inl rfl
  | cons h t ih =>
    unfold idxF
    by_cases hp : p h = true
    · rw [if_pos hp]; right; simp; omega
    · rw [if_neg hp]
      rcases ih (k + 1) with e | ⟨h1, h2⟩
      · exact Or.inl e
      · right; simp at h2 ⊢; omega
theorem idxF_at {α : Type} (p : α → Bool) (l : List α) (k : Nat) (d : α) (h : 0 ≤ idxF p l k) : p (l.getD ((idxF p l k).toNat - k) d) = true := by
  induction l generalizing k with
  | nil => simp [idxF] at h
  | cons x t ih =>
    unfold idxF at h ⊢
    by_cases hp : p x = true
    · rw [if_pos hp]; simp [hp]
    · rw [if_neg hp] at h ⊢
      have h2 := ih (k + 1) h
      have hr := idxF_range p t (k + 1)
      have e : (idxF p t (k + 1)).toNat - k = ((idxF p t (k + 1)).toNat - (k + 1)) + 1 := by omega
      rw [e, List.getD_cons_succ]; exact h2
theorem idxF_no {α : Type} (p : α → Bool) (l : List α) (k : Nat) (d : α) (h : k < l.length) (hp : p (l.getD k d) = false) : idxF p (l.drop k) k = idxF p (l.drop (k + 1)) (k + 1) := by
  rw [List.drop_eq_getElem_cons h]
  have e : l[k] = l.getD k d := by simp [List.getD, h]
  rw [e]
  show (if _ then _ else _) = _
  rw [if_neg (by rw [hp]; simp)]
theorem idxF_yes {α : Type} (p : α → Bool) (l : List α) (k : Nat) (d : α) (h : k < l.length) (hp : p (l.getD k d) = true) : idxF p (l.drop k) k = (k : Int) := by
  rw [List.drop_eq_getElem_cons h]
  have e : l[k] = l.getD k d := by simp [List.getD, h]
  rw [e]
  show (if _ then _ else _) = _
  rw [if_pos hp]
theorem idxF_end {α : Type} (p : α → Bool) (l : List α) (k : Nat) (h : l.length ≤ k) : idxF p (l.drop k) k = -1 := by
  rw [List.drop_eq_nil_of_le h]; rfl
theorem leq_less : ∀ x y : List UInt8, (Op.bytesLess x y || x == y) = !Op.bytesLess y x
  | [], [] => rfl
  | [], b :: y => by simp [Op.bytesLess]
  | a :: x, [] => by simp [Op.bytesLess]
  | a :: x, b :: y => by
    have ih := leq_less x y
    rw [Op.bytesLess, Op.bytesLess]
    by_cases h1 : a < b
    · have h2 : ¬ b < a := by rw [UInt8.lt_iff_toNat_lt] at *; omega
      have h3 : b ≠ a := by intro e; subst e; rw [UInt8.lt_iff_toNat_lt] at *; omega
      simp [h1, h2, h3]
    · by_cases h2 : b < a
      · have h3 : a ≠ b := by intro e; subst e; exact h1 h2
        simp [h1, h2, h3]
      · have h3 : a = b := by
          apply UInt8.toNat_inj.1
          rw [UInt8.lt_iff_toNat_lt] at *; omega
        subst h3
        simp only [h1, decide_false, Bool.false_or, BEq.rfl, Bool.true_and]
        rw [← ih]
        simp
theorem leq_not (s t : ByteArray) : (Op.bytesLess s.toList t.toList || s.toList == t.toList) = !less t s := leq_less _ _
theorem riseF_none (H : List Hd) (h : named H = true) : riseF (ByteArray.mk #[]) H = rise H := by
  cases H with
  | nil => rfl
  | cons x t =>
    have hx : nam x.1 = true := by unfold named at h; simp at h; exact h.1
    have h0 : 0 < x.1.size := by
      unfold nam at hx; simp at hx; have := hx.1; omega
    show (less _ x.1 && riseF x.1 t) = riseF x.1 t
    have : less (ByteArray.mk #[]) x.1 = true := by
      unfold less
      rw [ByteArray.toList_eq, ByteArray.toList_eq]
      cases hd : x.1.data.toList with
      | nil =>
        have : x.1.size = 0 := by show x.1.data.size = 0; rw [← Array.length_toList, hd]; rfl
        omega
      | cons a l => simp [Op.bytesLess]
    rw [this]; rfl
theorem riseF_end (s : ByteArray) (H : List Hd) (k : Nat) (h : H.length ≤ k) : riseF s (H.drop k) = true := by rw [List.drop_eq_nil_of_le h]; rfl
theorem riseF_at (s : ByteArray) (H : List Hd) (k : Nat) (h : k < H.length) (x : Hd) (e : H.getD k hd0 = x) : riseF s (H.drop k) = (less s x.1 && riseF x.1 (H.drop (k + 1))) := by
  rw [hdrop H k h, e]; rfl
theorem named_any (H : List Hd) : H.any (fun h => !nam h.1) = !named H := by
  unfold named; rw [List.not_all_eq_any_not]
theorem inside_any (n : Nat) (H : List Hd) : H.any (fun h => !decide (0 ≤ h.2 ∧ h.2 < (n : Int))) = !inside n H := by
  unfold inside; rw [List.not_all_eq_any_not]
/-- Where a head of that name stands; -1: there is none. -/
def plc (H : List Hd) (s : ByteArray) : Int := idxF (fun h => alike h.1 s) H 0
/-- The error of a head's name in a repo. -/
def hchk (C : List Com) (H : List Hd) (s : ByteArray) : Int := if rchk C H ≠ 0 then rchk C H else if plc H s < 0 then 5 else 0
/-- Its commit. -/
def hat (C : List Com) (H : List Hd) (s : ByteArray) : Int := if hchk C H s ≠ 0 then 0 else (H.getD (plc H s).toNat hd0).2
/-- The numbers of those of the first k that are so, falling. -/
def fallF (b : List Bool) : Nat → List Int
  | 0 => []
  | k + 1 => if b.getD k false = true then (k : Int) :: fallF b k else fallF b k
def logL (C : List Com) (H : List Hd) (s : ByteArray) : List Int := if hchk C H s ≠ 0 then [] else fallF (above C (hat C H s).toNat) C.length
theorem fallF_len (b : List Bool) (k : Nat) : (fallF b k).length ≤ k := by
  induction k with
  | zero => simp [fallF]
  | succ k ih =>
    unfold fallF
    split
    · simp; omega
    · omega
theorem rchk_zero {C : List Com} {H : List Hd} (h : rchk C H = 0) : dchk C = 0 ∧ H.length ≤ 4 ∧ named H = true ∧ inside C.length H = true ∧ rise H = true := by
  unfold rchk at h
  split at h
  · rename_i h1; exact absurd h h1
  · rename_i h1
    split at h
    · omega
    · split at h
      · omega
      · split at h
        · omega
        · split at h
          · omega
          · rename_i a b c d
            exact ⟨by simpa using h1, by omega, by simpa using b, by simpa using c, by simpa using d⟩
theorem hchk_zero {C : List Com} {H : List Hd} {s : ByteArray} (h : hchk C H s = 0) : rchk C H = 0 ∧ 0 ≤ plc H s := by
  unfold hchk at h
  split at h
  · rename_i h1; exact absurd h h1
  · rename_i h1
    split at h
    · omega
    · exact ⟨by simpa using h1, by omega⟩
theorem plc_lt (H : List Hd) (s : ByteArray) : plc H s = -1 ∨ (0 ≤ plc H s ∧ plc H s < (H.length : Int)) := by
  have := idxF_range (fun h : Hd => alike h.1 s) H 0
  unfold plc
  simpa using this
theorem inside_at {n : Nat} {H : List Hd} (h : inside n H = true) (k : Nat) (hk : k < H.length) : 0 ≤ (H.getD k hd0).2 ∧ (H.getD k hd0).2 < (n : Int) := by
  unfold inside at h
  rw [List.all_eq_true] at h
  have e : H.getD k hd0 = H[k] := by simp [List.getD, hk]
  have := h H[k] (List.getElem_mem hk)
  rw [e]; simpa using this
theorem rise_cons (x y : Hd) (t : List Hd) : rise (x :: y :: t) = (less x.1 y.1 && rise (y :: t)) := rfl
theorem rise_iff : ∀ H : List Hd, rise H = true ↔ ∀ k, k + 1 < H.length → less (H.getD k hd0).1 (H.getD (k + 1) hd0).1 = true
  | [] => by simp [rise]
  | [x] => by simp [rise, riseF]
  | x :: y :: t => by
    rw [rise_cons, Bool.and_eq_true, rise_iff (y :: t)]
    constructor
    · rintro ⟨h1, h2⟩ k hk
      cases k with
      | zero => exact h1
      | succ k =>
        have := h2 k (by simpa using hk)
        simpa using this
    · intro h
      refine ⟨h 0 (by simp), fun k hk => ?_⟩
      have := h (k + 1) (by simpa using hk)
      simpa using this
theorem inside_iff (n : Nat) (H : List Hd) : inside n H = true ↔ ∀ k, k < H.length → 0 ≤ (H.getD k hd0).2 ∧ (H.getD k hd0).2 < (n : Int) := by
  constructor
  · exact fun h k hk => inside_at h k hk
  · intro h
    unfold inside
    rw [List.all_eq_true]
    intro x hx
    obtain ⟨i, hi, e⟩ := List.getElem_of_mem hx
    have := h i hi
    rw [show H.getD i hd0 = x by simp [List.getD, hi, e]] at this
    simpa using this
/-- The heads ahead of k are in order, and inside. -/
def fineTo (n : Nat) (H : List Hd) (k : Nat) : Prop := ∀ j, j < k → (∀ i, i + 1 = j → less (H.getD i hd0).1 (H.getD j hd0).1 = true) ∧ 0 ≤ (H.getD j hd0).2 ∧ (H.getD j hd0).2 < (n : Int)
theorem fineTo_end {n : Nat} {H : List Hd} (h : fineTo n H H.length) : inside n H = true ∧ rise H = true :=
  ⟨(inside_iff n H).2 fun k hk => (h k hk).2, (rise_iff H).2 fun k hk => (h (k + 1) hk).1 k rfl⟩
theorem fineTo_bad {n : Nat} {H : List Hd} {k : Nat} (hk : k < H.length) (hb : (∃ i, i + 1 = k ∧ less (H.getD i hd0).1 (H.getD k hd0).1 = false) ∨ (H.getD k hd0).2 < 0 ∨ (n : Int) ≤ (H.getD k hd0).2) : inside n H = false ∨ rise H = false := by
  by_cases h1 : inside n H = false
  · exact Or.inl h1
  · right
    have h1 : inside n H = true := by simpa using h1
    have h2 := (inside_iff n H).1 h1 k hk
    rcases hb with ⟨i, hi, hl⟩ | hb
    · by_cases h3 : rise H = true
      · subst hi
        have := (rise_iff H).1 h3 i hk
        rw [hl] at this; simp at this
      · simpa using h3
    · omega
theorem fineTo_next {n : Nat} {H : List Hd} {k : Nat} (h : fineTo n H k) (h1 : ∀ i, i + 1 = k → less (H.getD i hd0).1 (H.getD k hd0).1 = true) (h2 : 0 ≤ (H.getD k hd0).2 ∧ (H.getD k hd0).2 < (n : Int)) : fineTo n H (k + 1) := by
  intro j hj
  by_cases e : j = k
  · subst e; exact ⟨h1, h2⟩
  · exact h j (by omega)
theorem named_at {H : List Hd} (h : ∀ k, k < H.length → nam (H.getD k hd0).1 = true) : named H = true := by
  unfold named
  rw [List.all_eq_true]
  intro x hx
  obtain ⟨i, hi, e⟩ := List.getElem_of_mem hx
  have := h i hi
  rw [show H.getD i hd0 = x by simp [List.getD, hi, e]] at this
  exact this
theorem named_no {H : List Hd} {k : Nat} (hk : k < H.length) (h : nam (H.getD k hd0).1 = false) : named H = false := by
  unfold named
  rw [List.all_eq_false]
  exact ⟨H[k], List.getElem_mem hk, by have e : H.getD k hd0 = H[k] := by simp [List.getD, hk]
                                       rw [← e, h]; simp⟩
theorem hat_in {C : List Com} {H : List Hd} {s : ByteArray} (h : hchk C H s = 0) : 0 ≤ hat C H s ∧ hat C H s < (C.length : Int) := by
  obtain ⟨h1, h2⟩ := hchk_zero h
  unfold hat
  rw [if_neg (by simpa using h)]
  have hp := plc_lt H s
  exact inside_at (rchk_zero h1).2.2.2.1 _ (by omega)
end Go.Proofs.Ytcgpgflnihjpiae.M
