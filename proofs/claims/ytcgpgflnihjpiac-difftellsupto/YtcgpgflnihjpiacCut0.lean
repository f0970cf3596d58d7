/- Plain facts on sums and chunks. -/
import Derived.Test.YtcgpgflnihjpiacMath
namespace Go.Proofs.Ytcgpgflnihjpiac.M

def sumFrom (s : Int) : List (Int × Int) → Int
  | [] => s
  | r :: t => sumFrom ((31 * s + 7 * r.1 + r.2 + 1) % 997) t
def sum (l : List (Int × Int)) : Int := sumFrom 1 l
def sumV (l : List (Int × Int)) : Int := if chk l = 0 then sum l else 0
theorem sumFrom_step (s : Int) (l : List (Int × Int)) (k : Nat) (h : k < l.length) (x y : Int) (e : l.getD k (0, 0) = (x, y)) : sumFrom s (l.drop k) = sumFrom ((31 * s + 7 * x + y + 1) % 997) (l.drop (k + 1)) := by
  rw [drop_at l k h, e, sumFrom]
theorem sumFrom_end (s : Int) (l : List (Int × Int)) (k : Nat) (h : l.length ≤ k) : sumFrom s (l.drop k) = s := by
  rw [List.drop_eq_nil_of_le h]; rfl
theorem sumFrom_range (s : Int) (l : List (Int × Int)) (h0 : 0 ≤ s) (h1 : s ≤ 996) : 0 ≤ sumFrom s l ∧ sumFrom s l ≤ 996 := by
  induction l generalizing s with
  | nil => exact ⟨h0, h1⟩
  | cons r t ih => rw [sumFrom]; exact ih _ (by omega) (by omega)

/-- May a chunk end with this row? -/
def endsB (level x y : Int) : Bool := decide ((7 * x + 13 * y + 5 * level) % 3 = 0)
def right (level x y : Int) : Bool := decide (0 ≤ x ∧ x ≤ 99 ∧ 0 ≤ y ∧ y ≤ 996 ∧ 0 ≤ level ∧ level ≤ 9)
def ends (level x y : Int) : Bool := right level x y && endsB level x y
theorem ends_no {level x y : Int} (h : right level x y = false) : ends level x y = false := by unfold ends; rw [h]; rfl
theorem ends_yes {level x y : Int} (h : right level x y = true) : ends level x y = endsB level x y := by unfold ends; rw [h]; rfl

/-- How many rows the first chunk has, of which n have been seen. -/
def lenFrom (level : Int) (n : Nat) : List (Int × Int) → Nat
  | [] => n
  | r :: t => if n + 1 = 6 ∨ (2 ≤ n + 1 ∧ ends level r.1 r.2 = true) then n + 1 else lenFrom level (n + 1) t
def len (level : Int) (l : List (Int × Int)) : Nat := lenFrom level 0 l
theorem lenFrom_stop (level : Int) (n : Nat) (l : List (Int × Int)) (k : Nat) (h : k < l.length) (x y : Int) (e : l.getD k (0, 0) = (x, y)) (hs : n + 1 = 6 ∨ (2 ≤ n + 1 ∧ ends level x y = true)) : lenFrom level n (l.drop k) = n + 1 := by
  rw [drop_at l k h, e, lenFrom, if_pos hs]
theorem lenFrom_go (level : Int) (n : Nat) (l : List (Int × Int)) (k : Nat) (h : k < l.length) (x y : Int) (e : l.getD k (0, 0) = (x, y)) (hs : ¬ (n + 1 = 6 ∨ (2 ≤ n + 1 ∧ ends level x y = true))) : lenFrom level n (l.drop k) = lenFrom level (n + 1) (l.drop (k + 1)) := by
  rw [drop_at l k h, e, lenFrom, if_neg hs]
theorem lenFrom_end (level : Int) (n : Nat) (l : List (Int × Int)) (k : Nat) (h : l.length ≤ k) : lenFrom level n (l.drop k) = n := by
  rw [List.drop_eq_nil_of_le h]; rfl
theorem lenFrom_bound (level : Int) (n : Nat) (l : List (Int × Int)) : n ≤ lenFrom level n l ∧ lenFrom level n l ≤ n + l.length := by
  induction l generalizing n with
  | nil => simp [lenFrom]
  | cons r t ih =>
    rw [lenFrom]
    rw [List.length_cons]
    split
    · omega
    · have := ih (n + 1); omega
theorem len_pos (level : Int) (l : List (Int × Int)) (h : l ≠ []) : 0 < len level l ∧ len level l ≤ l.length := by
  cases l with
  | nil => exact absurd rfl h
  | cons r t =>
    unfold len
    rw [lenFrom, List.length_cons]
    split
    · omega
    · have := lenFrom_bound level (0 + 1) t; omega

/-- The chunks of rows. -/
def cutF (level : Int) : Nat → List (Int × Int) → List (List (Int × Int))
  | 0, _ => []
  | f + 1, l => if l = [] then [] else l.take (len level l) :: cutF level f (l.drop (len level l))
def cut (level : Int) (l : List (Int × Int)) : List (List (Int × Int)) := cutF level l.length l
theorem cutF_nil (level : Int) (f : Nat) : cutF level f [] = [] := by cases f <;> simp [cutF]
theorem cutF_more (level : Int) (f g : Nat) (l : List (Int × Int)) (hf : l.length ≤ f) (hg : l.length ≤ g) : cutF level f l = cutF level g l := by
  induction f generalizing g l with
  | zero =>
    have : l = [] := List.eq_nil_of_length_eq_zero (by omega)
    subst this
    rw [cutF_nil, cutF_nil]
  | succ f ih =>
    cases g with
    | zero =>
      have : l = [] := List.eq_nil_of_length_eq_zero (by omega)
      subst this
      rw [cutF_nil, cutF_nil]
    | succ g =>
      rw [cutF, cutF]
      by_cases h : l = []
      · rw [if_pos h, if_pos h]
      · rw [if_neg h, if_neg h]
        have hp := len_pos level l h
        rw [ih g (l.drop (len level l)) (by rw [List.length_drop]; omega) (by rw [List.length_drop]; omega)]
theorem cut_nil (level : Int) : cut level [] = [] := rfl
theorem cut_step (level : Int) (l : List (Int × Int)) (h : l ≠ []) : cut level l = l.take (len level l) :: cut level (l.drop (len level l)) := by
  unfold cut
  have hp := len_pos level l h
  obtain ⟨f, hf⟩ : ∃ f, l.length = f + 1 := ⟨l.length - 1, by omega⟩
  conv => lhs; rw [hf, cutF, if_neg h]
  rw [cutF_more level f (l.drop (len level l)).length _ (by rw [List.length_drop]; omega) (Nat.le_refl _)]
def cutE (l : List (Int × Int)) (level : Int) : Int := if chk l ≠ 0 then chk l else if level < 0 ∨ 9 < level then 3 else 0
def cutV (l : List (Int × Int)) (level : Int) : List (List (Int × Int)) := if cutE l level = 0 then cut level l else []
theorem cutE_bad {l : List (Int × Int)} {level : Int} (h : chk l ≠ 0) : cutE l level = chk l := by unfold cutE; rw [if_pos h]
theorem cutE_range {l : List (Int × Int)} {level : Int} (h : chk l = 0) (hk : level < 0 ∨ 9 < level) : cutE l level = 3 := by unfold cutE; rw [if_neg (by omega), if_pos hk]
theorem cutE_ok {l : List (Int × Int)} {level : Int} (h : chk l = 0) (hk : 0 ≤ level) (hk2 : level ≤ 9) : cutE l level = 0 := by unfold cutE; rw [if_neg (by omega), if_neg (by omega)]
theorem cutV_no {l : List (Int × Int)} {level : Int} (h : cutE l level ≠ 0) : cutV l level = [] := by unfold cutV; rw [if_neg h]
theorem cutV_ok {l : List (Int × Int)} {level : Int} (h : cutE l level = 0) : cutV l level = cut level l := by unfold cutV; rw [if_pos h]
end Go.Proofs.Ytcgpgflnihjpiac.M
