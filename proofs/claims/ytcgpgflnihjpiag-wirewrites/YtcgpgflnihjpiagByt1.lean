/- Plain facts on logs: acts, one behind the other, and logs that are cut, with no program in sight. -/
import Derived.Test.YtcgpgflnihjpiagByt0
namespace Go.Proofs.Ytcgpgflnihjpiag.M

/-- The acts that a text begins with, n at most, and what is behind them. -/
def rAs : Nat → By → List Act × By
  | 0, l => ([], l)
  | n + 1, l => match rA l with
    | none => ([], l)
    | some (x, l1) => (x :: (rAs n l1).1, (rAs n l1).2)
theorem pA_pos (x : Act) : 4 ≤ (pA x).length := by
  unfold pA pT pL
  simp; omega
theorem rA_less {l t : By} {x : Act} (h : rA l = some (x, t)) : t.length + 4 ≤ l.length := by
  rw [(rA_inv h).1, List.length_append]
  have := pA_pos x
  omega
/-- Cut within an act, there is none. -/
theorem rA_cut {x : Act} (h : okA x) (j : Nat) (hj : j < (pA x).length) : rA ((pA x).take j) = none := by
  cases e : rA ((pA x).take j) with
  | none => rfl
  | some p =>
    exfalso
    obtain ⟨y, t⟩ := p
    obtain ⟨e1, oy⟩ := rA_inv e
    have e2 : pA x = pA y ++ (t ++ (pA x).drop j) := by rw [← List.append_assoc, ← e1, List.take_append_drop]
    have h1 := rA_p h []
    rw [List.append_nil] at h1
    have h2 := rA_p oy (t ++ (pA x).drop j)
    rw [← e2, h1] at h2
    simp only [Option.some.injEq, Prod.mk.injEq] at h2
    have h3 := congrArg List.length h2.2
    simp at h3
    omega
theorem rAs_len (n : Nat) (l : By) : (rAs n l).1.length ≤ n ∧ (rAs n l).2.length ≤ l.length := by
  induction n generalizing l with
  | zero => simp [rAs]
  | succ n ih =>
    rw [rAs]
    split
    · simp
    · rename_i x l1 e
      have := rA_less e
      have := ih l1
      simp; omega
theorem rAs_none (n : Nat) (l : By) (h : rA l = none) : rAs n l = ([], l) := by
  cases n with
  | zero => rfl
  | succ n => rw [rAs, h]
theorem rAs_ok (n : Nat) (l : By) : ∀ x ∈ (rAs n l).1, okA x := by
  induction n generalizing l with
  | zero => simp [rAs]
  | succ n ih =>
    rw [rAs]
    split
    · simp
    · rename_i x l1 e
      intro y hy
      rcases List.mem_cons.1 hy with rfl | hy
      · exact (rA_inv e).2
      · exact ih l1 y hy
/-- What was read, written again. -/
theorem rAs_inv (n : Nat) (l : By) : l = (rAs n l).1.flatMap pA ++ (rAs n l).2 := by
  induction n generalizing l with
  | zero => simp [rAs]
  | succ n ih =>
    rw [rAs]
    split
    · simp
    · rename_i x l1 e
      rw [List.flatMap_cons, List.append_assoc, ← ih l1]
      exact (rA_inv e).1
/-- Acts that were written, and something more. -/
theorem rAs_p (xs : List Act) (h : ∀ x ∈ xs, okA x) (n : Nat) (t : By) : rAs (xs.length + n) (xs.flatMap pA ++ t) = (xs ++ (rAs n t).1, (rAs n t).2) := by
  induction xs with
  | nil => simp
  | cons x xs ih =>
    rw [List.length_cons, show xs.length + 1 + n = (xs.length + n) + 1 by omega, rAs, List.flatMap_cons, List.append_assoc, rA_p (h x (by simp))]
    simp only
    rw [ih (fun y hy => h y (by simp [hy]))]
    rfl
/-- How many of the acts are whole in the first k bytes. -/
def whole : List Act → Nat → Nat
  | [], _ => 0
  | x :: xs, k => if (pA x).length ≤ k then whole xs (k - (pA x).length) + 1 else 0
theorem whole_le (xs : List Act) (k : Nat) : whole xs k ≤ xs.length := by
  induction xs generalizing k with
  | nil => simp [whole]
  | cons x xs ih =>
    rw [whole]
    split
    · have := ih (k - (pA x).length); simp; omega
    · simp
theorem rAs_cut (xs : List Act) (h : ∀ x ∈ xs, okA x) (n k : Nat) (hn : xs.length ≤ n) (hk : k ≤ (xs.flatMap pA).length) : (rAs n ((xs.flatMap pA).take k)).1 = xs.take (whole xs k) := by
  induction xs generalizing n k with
  | nil =>
    simp only [List.flatMap_nil, List.take_nil, whole]
    rw [rAs_none _ _ (by rfl)]
  | cons x xs ih =>
    obtain ⟨m, rfl⟩ : ∃ m, n = m + 1 := ⟨n - 1, by simp at hn; omega⟩
    rw [List.flatMap_cons, whole]
    split
    · rename_i hx
      rw [List.take_append, List.take_of_length_le hx, rAs, rA_p (h x (by simp))]
      simp only
      rw [ih (fun y hy => h y (by simp [hy])) m (k - (pA x).length) (by simpa using hn) (by rw [List.flatMap_cons, List.length_append] at hk; omega), List.take_succ_cons]
    · rename_i hx
      rw [List.take_append, show k - (pA x).length = 0 by omega, List.take_zero, List.append_nil, rAs_none _ _ (rA_cut (h x (by simp)) k (by omega))]
      simp
end Go.Proofs.Ytcgpgflnihjpiag.M
