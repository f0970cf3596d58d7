/- Plain facts on seeking in a tree. -/
import Derived.Test.YtcgpgflnihjpiacTree1
namespace Go.Proofs.Ytcgpgflnihjpiac.M

/-- The last key of rows. -/
def lastK (c : List (Int × Int)) : Int := (c.getD (c.length - 1) (0, 0)).1
theorem lastK_opt (c : List (Int × Int)) : lastK c = (c.getLast?.getD (0, 0)).1 := by unfold lastK; rw [List.getLast?_eq_getElem?]; rfl
theorem lastK_append (a c : List (Int × Int)) (h : c ≠ []) : lastK (a ++ c) = lastK c := by
  rw [lastK_opt, lastK_opt, List.getLast?_append]
  cases hc : c.getLast? with
  | none => rw [List.getLast?_eq_none_iff] at hc; exact absurd hc h
  | some x => simp
theorem lastK_tell (LL : List (List (Int × Int))) (h : LL ≠ []) : lastK (tell LL) = lastK (LL.getD (LL.length - 1) []) := by
  have hp : 0 < LL.length := List.length_pos_iff.2 h
  have e : (tell LL).getD ((tell LL).length - 1) (0, 0) = tellOf (LL.getD (LL.length - 1) []) := by
    unfold tell
    rw [List.length_map]
    simp [List.getD, show LL.length - 1 < LL.length by omega]
  unfold lastK
  rw [e]
  rfl
theorem lastK_flatten (LL : List (List (Int × Int))) (h : LL ≠ []) (hne : ∀ c ∈ LL, c ≠ []) : lastK LL.flatten = lastK (LL.getD (LL.length - 1) []) := by
  rcases List.eq_nil_or_concat LL with e | ⟨i, c, e⟩
  · exact absurd e h
  · subst e
    rw [List.concat_eq_append] at hne ⊢
    rw [List.flatten_append, List.flatten_singleton, lastK_append _ _ (hne c (by simp))]
    congr 1
    simp [List.getD]

theorem buildF_lasts (f k : Nat) (l : List (Int × Int)) (hf : l.length ≤ f) (h : chk l = 0) : ∀ L ∈ buildF f k l, L ≠ [] ∧ Ok L.flatten ∧ lastK L.flatten = lastK l := by
  induction f generalizing k l with
  | zero => intro L hL; simp [buildF] at hL
  | succ f ih =>
    intro L hL
    by_cases hl : l = []
    · subst hl; rw [buildF_nil] at hL; simp at hL
    · have hlp : 0 < l.length := List.length_pos_iff.2 hl
      have h0 : cut k l ≠ [] ∧ Ok (cut k l).flatten ∧ lastK (cut k l).flatten = lastK l := ⟨cut_zero_of hl, by rw [cut_flat]; exact ((chk_zero l).1 h).2, by rw [cut_flat]⟩
      by_cases h1 : (cut k l).length = 1
      · rw [buildF_one f k l hl h1] at hL
        obtain rfl : L = cut k l := by simpa using hL
        exact h0
      · rw [buildF_more f k l hl h1] at hL
        rcases List.mem_cons.1 hL with rfl | hL
        · exact h0
        · have hh := cut_half k l
          have hp := cut_pos k l hl
          obtain ⟨i1, i2, i3⟩ := ih (k + 1) (tell (cut k l)) (by rw [tell_length]; omega) (tell_cut_chk h) L hL
          refine ⟨i1, i2, ?_⟩
          rw [i3, lastK_tell _ h0.1, ← lastK_flatten _ h0.1 (cut_ne k l), h0.2.2]
theorem build_lasts (l : List (Int × Int)) (h : chk l = 0) : ∀ L ∈ build l, L ≠ [] ∧ Ok L.flatten ∧ lastK L.flatten = lastK l := buildF_lasts l.length 0 l (Nat.le_refl _) h

/-- The first chunk of a level that comes up to a key. -/
def FU (L : List (List (Int × Int))) (key : Int) (k : Nat) : Prop := k ≤ L.length ∧ (∀ i, i < k → lastK (L.getD i []) < key) ∧ (k < L.length → key ≤ lastK (L.getD k []))

theorem lasts_mono (L : List (List (Int × Int))) (h : Ok L.flatten) (hne : ∀ c ∈ L, c ≠ []) (i j : Nat) (hij : i ≤ j) (hj : j < L.length) : lastK (L.getD i []) ≤ lastK (L.getD j []) := by
  have h1 := (tell_ok L h hne).1.mono i j hij (by rw [tell_length]; exact hj)
  have e : ∀ i, i < L.length → (tell L).getD i (0, 0) = tellOf (L.getD i []) := fun i hi => by
    unfold tell
    simp [List.getD, hi]
  rw [e i (by omega), e j hj] at h1
  exact h1
theorem FU.yes {L : List (List (Int × Int))} {key : Int} {k : Nat} (h : FU L key k) (hL : L ≠ []) (hne : ∀ c ∈ L, c ≠ []) (hk : key ≤ lastK L.flatten) : k < L.length := by
  have hp : 0 < L.length := List.length_pos_iff.2 hL
  by_cases hlt : k < L.length
  · exact hlt
  · have h1 := h.2.1 (L.length - 1) (by omega)
    rw [← lastK_flatten L hL hne] at h1
    omega
theorem FU.no {L : List (List (Int × Int))} {key : Int} {k : Nat} (h : FU L key k) (hL : L ≠ []) (hok : Ok L.flatten) (hne : ∀ c ∈ L, c ≠ []) (hk : lastK L.flatten < key) : k = L.length := by
  have hp : 0 < L.length := List.length_pos_iff.2 hL
  by_cases hlt : k < L.length
  · have h1 := h.2.2 hlt
    have h2 := lasts_mono L hok hne k (L.length - 1) (by omega) (by omega)
    rw [← lastK_flatten L hL hne] at h2
    omega
  · have := h.1; omega
theorem le_lastK (c : List (Int × Int)) (h : Ok c) : ∀ r ∈ c, r.1 ≤ lastK c := by
  intro r hr
  obtain ⟨i, hi, rfl⟩ := mem_getD hr
  exact h.mono i (c.length - 1) (by omega) (by omega)
theorem ok_part {L : List (List (Int × Int))} (h : Ok L.flatten) : ∀ c ∈ L, Ok c := fun c hc => ⟨fun r hr => h.1 r (List.mem_flatten.2 ⟨c, hc, hr⟩), (List.pairwise_flatten.1 h.2).1 c hc⟩
theorem ok_apart {L : List (List (Int × Int))} (h : Ok L.flatten) (i j : Nat) (hij : i < j) (hj : j < L.length) : ∀ x ∈ L.getD i [], ∀ y ∈ L.getD j [], x.1 < y.1 := by
  have := List.pairwise_iff_getElem.1 (List.pairwise_flatten.1 h.2).2 i j (by omega) hj hij
  simpa [List.getD, hj, Nat.lt_trans hij hj] using this
theorem mem_at {L : List (List (Int × Int))} {r : Int × Int} (h : r ∈ L.flatten) : ∃ i, i < L.length ∧ r ∈ L.getD i [] := by
  obtain ⟨c, hc, hr⟩ := List.mem_flatten.1 h
  obtain ⟨i, hi, e⟩ := List.mem_iff_getElem.1 hc
  exact ⟨i, hi, by simp [List.getD, hi, e, hr]⟩
theorem at_mem {L : List (List (Int × Int))} {i : Nat} (h : i < L.length) : L.getD i [] ∈ L := by simp [List.getD, h]
theorem last_mem {c : List (Int × Int)} (h : c ≠ []) : ∃ r ∈ c, r.1 = lastK c := ⟨_, getD_mem c (c.length - 1) (by have := List.length_pos_iff.2 h; omega), rfl⟩

theorem FU.find {L : List (List (Int × Int))} {key : Int} {k : Nat} (h : FU L key k) (hok : Ok L.flatten) (hne : ∀ c ∈ L, c ≠ []) (hk : k < L.length) : find key (L.getD k []) = find key L.flatten := by
  have hc := at_mem hk
  by_cases he : ∃ r ∈ L.getD k [], r.1 = key
  · obtain ⟨r, hr, e⟩ := he
    rw [find_mem key _ (ok_part hok _ hc).2 r hr e, find_mem key _ hok.2 r (List.mem_flatten.2 ⟨_, hc, hr⟩) e]
  · have h1 : ∀ r ∈ L.getD k [], r.1 ≠ key := fun r hr e => he ⟨r, hr, e⟩
    rw [find_none key _ h1, find_none key]
    intro r hr e
    obtain ⟨i, hi, hri⟩ := mem_at hr
    rcases Nat.lt_trichotomy i k with hik | hik | hik
    · have a1 := h.2.1 i hik
      have a2 := le_lastK _ (ok_part hok _ (at_mem hi)) r hri
      omega
    · subst hik; exact h1 r hri e
    · obtain ⟨q, hq, eq⟩ := last_mem (hne _ hc)
      have a1 := ok_apart hok k i hik hi q hq r hri
      have a2 := h.2.2 hk
      omega
theorem find_above (l : List (Int × Int)) (h : Ok l) (key : Int) (hk : lastK l < key) : find key l = -1 :=
  find_none key l fun r hr e => by have := le_lastK l h r hr; omega

def fuK (L : List (List (Int × Int))) (key : Int) : Nat := L.findIdx fun c => decide (key ≤ lastK c)
theorem FU.eq {L : List (List (Int × Int))} {key : Int} {k : Nat} (h : FU L key k) : k = fuK L key := by
  unfold fuK
  by_cases hk : k < L.length
  · refine ((List.findIdx_eq hk).2 ⟨?_, fun j hj => ?_⟩).symm
    · have := h.2.2 hk
      simpa [List.getD, hk] using this
    · have := h.2.1 j hj
      simpa [List.getD, Nat.lt_trans hj hk] using this
  · have e : k = L.length := by have := h.1; omega
    subst e
    refine (List.findIdx_eq_length.2 fun c hc => ?_).symm
    obtain ⟨i, hi, rfl⟩ := List.mem_iff_getElem.1 hc
    have := h.2.1 i hi
    simpa [List.getD, hi] using this

theorem fu_ex (L : List (List (Int × Int))) (key : Int) : ∃ k, FU L key k := by
  refine ⟨fuK L key, List.findIdx_le_length, fun i hi => ?_, fun hk => ?_⟩
  · have h1 := List.not_of_lt_findIdx hi
    have hl : i < L.length := Nat.lt_of_lt_of_le hi List.findIdx_le_length
    simpa [List.getD, hl] using h1
  · have h1 := List.findIdx_getElem (w := hk)
    have hk' : List.findIdx (fun c => decide (key ≤ lastK c)) L < L.length := hk
    have e : L.getD (fuK L key) [] = L[List.findIdx (fun c => decide (key ≤ lastK c)) L] := by unfold fuK; rw [List.getD, List.getElem?_eq_getElem hk']; rfl
    rw [e]
    exact of_decide_eq_true h1

/-- The rows of a range. -/
def filt (lo hi : Int) (l : List (Int × Int)) : List (Int × Int) := l.filter fun r => decide (lo ≤ r.1 ∧ r.1 ≤ hi)
theorem filt_none (lo hi : Int) (l : List (Int × Int)) (h : ∀ r ∈ l, r.1 < lo ∨ hi < r.1) : filt lo hi l = [] := by
  unfold filt
  rw [List.filter_eq_nil_iff]
  intro r hr
  have := h r hr
  simp; omega
theorem filt_append (lo hi : Int) (a b : List (Int × Int)) : filt lo hi (a ++ b) = filt lo hi a ++ filt lo hi b := by unfold filt; rw [List.filter_append]
theorem filt_len (lo hi : Int) (l : List (Int × Int)) : (filt lo hi l).length ≤ l.length := List.length_filter_le _ _
theorem take_at (l : List (Int × Int)) (k : Nat) (h : k < l.length) : l.take (k + 1) = l.take k ++ [l.getD k (0, 0)] := by
  rw [List.take_succ_eq_append_getElem h]; simp [List.getD, h]
theorem filt_yes (lo hi : Int) (l : List (Int × Int)) (k : Nat) (h : k < l.length) (x y : Int) (e : l.getD k (0, 0) = (x, y)) (h1 : lo ≤ x) (h2 : x ≤ hi) : filt lo hi (l.take (k + 1)) = filt lo hi (l.take k) ++ [(x, y)] := by
  rw [take_at l k h, filt_append, e]
  congr 1
  simp [filt, h1, h2]
theorem filt_no (lo hi : Int) (l : List (Int × Int)) (k : Nat) (h : k < l.length) (x y : Int) (e : l.getD k (0, 0) = (x, y)) (h1 : x < lo ∨ hi < x) : filt lo hi (l.take (k + 1)) = filt lo hi (l.take k) := by
  rw [take_at l k h, filt_append, e]
  have : filt lo hi [(x, y)] = [] := filt_none lo hi _ (by simpa using h1)
  rw [this, List.append_nil]
/-- All ahead of the first chunk that comes up to lo is less. -/
theorem FU.ahead {L : List (List (Int × Int))} {lo hi : Int} {k : Nat} (h : FU L lo k) (hok : Ok L.flatten) : filt lo hi L.flatten = filt lo hi (L.drop k).flatten := by
  have e : L.flatten = (L.take k).flatten ++ (L.drop k).flatten := by rw [← List.flatten_append, List.take_append_drop]
  rw [e, filt_append, filt_none lo hi (L.take k).flatten, List.nil_append]
  intro r hr
  obtain ⟨i, hi', hri⟩ := mem_at hr
  rw [List.length_take] at hi'
  have e2 : (L.take k).getD i [] = L.getD i [] := by simp [List.getD, show i < k by omega]
  rw [e2] at hri
  have a1 := h.2.1 i (by omega)
  have a2 := le_lastK _ (ok_part hok _ (at_mem (show i < L.length by omega))) r hri
  omega
/-- Where a row is above hi, all behind it is. -/
theorem filt_stop (lo hi : Int) (l : List (Int × Int)) (hok : Ok l) (k : Nat) (h : k < l.length) (x y : Int) (e : l.getD k (0, 0) = (x, y)) (hx : hi < x) : filt lo hi l = filt lo hi (l.take k) := by
  have e2 : l = l.take k ++ l.drop k := (List.take_append_drop k l).symm
  conv => lhs; rw [e2]
  rw [filt_append, filt_none lo hi (l.drop k), List.append_nil]
  intro r hr
  rw [drop_at l k h] at hr
  rcases List.mem_cons.1 hr with rfl | hr
  · rw [e]; right; exact hx
  · obtain ⟨j, hj, rfl⟩ := mem_getD hr
    rw [List.length_drop] at hj
    have e3 : (l.drop (k + 1)).getD j (0, 0) = l.getD (k + 1 + j) (0, 0) := by simp [List.getD, List.getElem?_drop]
    rw [e3]
    have := hok.asc k (k + 1 + j) (by omega) (by omega)
    rw [e] at this
    right; omega
end Go.Proofs.Ytcgpgflnihjpiac.M
