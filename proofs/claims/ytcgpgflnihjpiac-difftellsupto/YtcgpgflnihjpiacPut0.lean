/- Plain facts on rows in which a key is put. -/
import Derived.Test.YtcgpgflnihjpiacMath
namespace Go.Proofs.Ytcgpgflnihjpiac.M

/-- The rows in which a key has a value, or, of -1, is not there. -/
def own (key val : Int) : List (Int × Int) := if val = -1 then [] else [(key, val)]
def lows (key : Int) (l : List (Int × Int)) : List (Int × Int) := l.filter fun r => decide (r.1 < key)
def highs (key : Int) (l : List (Int × Int)) : List (Int × Int) := l.filter fun r => decide (key < r.1)
def put (key val : Int) (l : List (Int × Int)) : List (Int × Int) := lows key l ++ own key val ++ highs key l

theorem mem_take {l : List (Int × Int)} {k : Nat} {r : Int × Int} (h : r ∈ l.take k) : ∃ i, i < k ∧ i < l.length ∧ l.getD i (0, 0) = r := by
  obtain ⟨i, hi, e⟩ := List.mem_iff_getElem.1 h
  rw [List.length_take] at hi
  refine ⟨i, by omega, by omega, ?_⟩
  rw [← e, List.getElem_take]
  simp [List.getD, show i < l.length by omega]
theorem mem_drop {l : List (Int × Int)} {k : Nat} {r : Int × Int} (h : r ∈ l.drop k) : ∃ i, k ≤ i ∧ i < l.length ∧ l.getD i (0, 0) = r := by
  obtain ⟨i, hi, e⟩ := List.mem_iff_getElem.1 h
  rw [List.length_drop] at hi
  refine ⟨k + i, by omega, by omega, ?_⟩
  rw [← e, List.getElem_drop]
  simp [List.getD, show k + i < l.length by omega]

theorem filter_all {p : Int × Int → Bool} (l : List (Int × Int)) (h : ∀ r ∈ l, p r = true) : l.filter p = l := List.filter_eq_self.2 h
theorem filter_no {p : Int × Int → Bool} (l : List (Int × Int)) (h : ∀ r ∈ l, p r = false) : l.filter p = [] := List.filter_eq_nil_iff.2 fun r hr => by rw [h r hr]; decide

theorem At.lows {l : List (Int × Int)} {key : Int} {k : Nat} {t : Bool} (h : At l key k t) (ok : Ok l) : lows key l = l.take k := by
  unfold M.lows
  rw [← List.take_append_drop k l, List.filter_append, filter_all (l.take k), filter_no (l.drop k)]
  · simp [List.take_append_drop]
  · intro r hr
    obtain ⟨i, h1, h2, rfl⟩ := mem_drop hr
    have := h.2.2.1 (by omega)
    have := ok.mono k i h1 h2
    exact decide_eq_false (by omega)
  · intro r hr
    obtain ⟨i, h1, h2, rfl⟩ := mem_take hr
    simpa using h.2.1 i h1

theorem At.highs_no {l : List (Int × Int)} {key : Int} {k : Nat} (h : At l key k false) (ok : Ok l) : highs key l = l.drop k := by
  unfold M.highs
  rw [← List.take_append_drop k l, List.filter_append, filter_no (l.take k), filter_all (l.drop k)]
  · simp [List.take_append_drop]
  · intro r hr
    obtain ⟨i, h1, h2, rfl⟩ := mem_drop hr
    have h3 := h.2.2.1 (by omega)
    have h4 := ok.mono k i h1 h2
    have h5 : (l.getD k (0, 0)).1 ≠ key := fun e => by have := h.2.2.2.2 ⟨by omega, e⟩; simp at this
    exact decide_eq_true (by omega)
  · intro r hr
    obtain ⟨i, h1, h2, rfl⟩ := mem_take hr
    have := h.2.1 i h1
    exact decide_eq_false (by omega)

theorem At.highs_yes {l : List (Int × Int)} {key : Int} {k : Nat} (h : At l key k true) (ok : Ok l) : highs key l = l.drop (k + 1) := by
  unfold M.highs
  rw [← List.take_append_drop (k + 1) l, List.filter_append, filter_no (l.take (k + 1)), filter_all (l.drop (k + 1))]
  · simp [List.take_append_drop]
  · intro r hr
    obtain ⟨i, h1, h2, rfl⟩ := mem_drop hr
    have h3 := h.yes
    have h4 := ok.asc k i h1 h2
    exact decide_eq_true (by omega)
  · intro r hr
    obtain ⟨i, h1, h2, rfl⟩ := mem_take hr
    have h3 := h.yes
    have h4 := ok.mono i k (by omega) h3.1
    exact decide_eq_false (by omega)

/-- The error of Put. -/
def putE (l : List (Int × Int)) (key val : Int) : Int := if asked l key ≠ 0 then asked l key else if val < -1 ∨ 996 < val then 3 else if 40 < (put key val l).length then 2 else 0
def putV (l : List (Int × Int)) (key val : Int) : List (Int × Int) := if putE l key val = 0 then put key val l else []
theorem putE_bad {l : List (Int × Int)} {key val : Int} (h : asked l key ≠ 0) : putE l key val = asked l key := by unfold putE; rw [if_pos h]
theorem putE_range {l : List (Int × Int)} {key val : Int} (h : asked l key = 0) (hv : val < -1 ∨ 996 < val) : putE l key val = 3 := by unfold putE; rw [if_neg (by omega), if_pos hv]
theorem putE_many {l : List (Int × Int)} {key val : Int} (h : asked l key = 0) (h1 : -1 ≤ val) (h2 : val ≤ 996) (h3 : 40 < (put key val l).length) : putE l key val = 2 := by unfold putE; rw [if_neg (by omega), if_neg (by omega), if_pos h3]
theorem putE_ok {l : List (Int × Int)} {key val : Int} (h : asked l key = 0) (h1 : -1 ≤ val) (h2 : val ≤ 996) (h3 : (put key val l).length ≤ 40) : putE l key val = 0 := by unfold putE; rw [if_neg (by omega), if_neg (by omega), if_neg (by omega)]
theorem putE_zero {l : List (Int × Int)} {key val : Int} (h : putE l key val = 0) : asked l key = 0 ∧ -1 ≤ val ∧ val ≤ 996 ∧ (put key val l).length ≤ 40 := by
  unfold putE at h
  split at h
  · omega
  · split at h
    · omega
    · split at h
      · omega
      · omega
theorem putV_no {l : List (Int × Int)} {key val : Int} (h : putE l key val ≠ 0) : putV l key val = [] := by unfold putV; rw [if_neg h]
theorem putV_ok {l : List (Int × Int)} {key val : Int} (h : putE l key val = 0) : putV l key val = put key val l := by unfold putV; rw [if_pos h]

end Go.Proofs.Ytcgpgflnihjpiac.M
