/- Plain facts on what differs: laid on, turned back, none, how many; what of it is left for three ways. -/
import Derived.Test.YtcgpgflnihjpiadDiff3
namespace Go.Proofs.Ytcgpgflnihjpiad.M

theorem mem_dif (a b : List (Int × Int)) (c : Chg) : c ∈ dif a b ↔ ∃ k : Nat, k < 100 ∧ find (k : Int) a ≠ find (k : Int) b ∧ c = ((k : Int), find k a, find k b) := mem_difF a b 100 c
theorem dif_fine {a b : List (Int × Int)} (ha : Ok a) (hb : Ok b) : Fine (-1) (dif a b) := by
  refine ⟨fun c hc => ?_, difF_rise a b 100⟩
  obtain ⟨k, h1, h2, rfl⟩ := (mem_dif a b c).1 hc
  have r1 := find_range (key := (k : Int)) ha
  have r2 := find_range (key := (k : Int)) hb
  exact ⟨by show -1 < (k : Int); omega, by show (k : Int) ≤ 99; omega, r1.1, r1.2, r2.1, r2.2, h2⟩
theorem dif_clash (a b : List (Int × Int)) : clashF a (dif a b) = false := by
  unfold clashF
  rw [List.any_eq_false]
  intro c hc
  obtain ⟨k, h1, h2, rfl⟩ := (mem_dif a b c).1 hc
  simp
theorem dif_tab (a b : List (Int × Int)) (k : Nat) (hk : k < 100) : tab (fun x => find x a) (dif a b) (k : Int) = find k b := by
  rcases tab_cases (fun x => find x a) _ (difF_rise a b 100) (k : Int) with ⟨c, hc, e1, e2⟩ | ⟨hno, e2⟩
  · obtain ⟨j, h1, h2, rfl⟩ := (mem_dif a b c).1 hc
    have : (j : Int) = (k : Int) := e1
    have : j = k := by omega
    subst this
    exact e2
  · by_cases h : find (k : Int) a = find (k : Int) b
    · exact e2.trans h
    · exact absurd rfl (hno _ ((mem_dif a b _).2 ⟨k, hk, h, rfl⟩))
theorem dif_patch {a b : List (Int × Int)} (ha : chk a = 0) (hb : chk b = 0) : patchE a (dif a b) = 0 ∧ patchV a (dif a b) = b := by
  have oa := (chk_zero a).1 ha
  have ob := (chk_zero b).1 hb
  have e : ofTab (tab (fun k => find k a) (dif a b)) = b := ofTab_self ob.2 _ fun i hi => dif_tab a b i hi
  have e0 : patchE a (dif a b) = 0 := by
    unfold patchE
    rw [e, ha, (fine_iff _).2 (dif_fine oa.2 ob.2), dif_clash]
    have := ob.1
    simp
    omega
  refine ⟨e0, ?_⟩
  unfold patchV
  rw [if_pos e0, e]
theorem difF_swap (a b : List (Int × Int)) (n : Nat) : (difF a b n).map swapC = difF b a n := by
  induction n with
  | zero => rfl
  | succ n ih =>
    rw [difF, difF]
    by_cases h : find (n : Int) a = find (n : Int) b
    · rw [if_neg (by simp [h]), if_neg (by simp [h]), ih]
    · rw [if_pos h, if_pos (fun e => h e.symm), List.map_append, ih]; rfl
theorem dif_back {a b : List (Int × Int)} (ha : chk a = 0) (hb : chk b = 0) : backE (dif a b) = 0 ∧ backV (dif a b) = dif b a := by
  have hf := (fine_iff _).2 (dif_fine ((chk_zero a).1 ha).2 ((chk_zero b).1 hb).2)
  unfold backE backV
  rw [if_pos hf, if_pos hf]
  exact ⟨rfl, difF_swap a b 100⟩
theorem dif_nil {a b : List (Int × Int)} (ha : chk a = 0) (hb : chk b = 0) : dif a b = [] ↔ a = b := by
  have oa := ((chk_zero a).1 ha).2
  have ob := ((chk_zero b).1 hb).2
  constructor
  · intro h
    refine ext _ _ oa ob fun k => ?_
    by_cases hk : 0 ≤ k ∧ k ≤ 99
    · obtain ⟨i, rfl⟩ := Int.eq_ofNat_of_zero_le hk.1
      by_cases e : find (i : Int) a = find (i : Int) b
      · exact e
      · have := (mem_dif a b _).2 ⟨i, by omega, e, rfl⟩
        rw [h] at this
        simp at this
    · rw [find_out oa k (by omega), find_out ob k (by omega)]
  · rintro rfl
    refine List.eq_nil_iff_forall_not_mem.2 fun c hc => ?_
    obtain ⟨k, _, h, _⟩ := (mem_dif a a c).1 hc
    exact h rfl
theorem difF_le (a b : List (Int × Int)) (n : Nat) : (difF a b n).length ≤ (foldTo (fun i => find (i : Int) a) n).length + (foldTo (fun i => find (i : Int) b) n).length := by
  induction n with
  | zero => simp [difF]
  | succ n ih =>
    rw [difF, foldTo, foldTo]
    by_cases h : find (n : Int) a = find (n : Int) b
    · rw [if_neg (by simp [h])]
      split <;> split <;> (try simp) <;> omega
    · rw [if_pos h]
      by_cases h1 : find (n : Int) a = -1
      · rw [if_pos h1, if_neg (by omega)]; simp; omega
      · rw [if_neg h1]
        split <;> simp <;> omega
theorem dif_le {a b : List (Int × Int)} (ha : chk a = 0) (hb : chk b = 0) : (dif a b).length ≤ a.length + b.length := by
  have oa := ((chk_zero a).1 ha).2
  have ob := ((chk_zero b).1 hb).2
  have h := difF_le a b 100
  have e1 : foldTo (fun i => find (i : Int) a) 100 = a := ofTab_self oa (fun k => find k a) fun _ _ => rfl
  have e2 : foldTo (fun i => find (i : Int) b) 100 = b := ofTab_self ob (fun k => find k b) fun _ _ => rfl
  rw [e1, e2] at h
  exact h
theorem dif_at (a b : List (Int × Int)) (k : Nat) (h : k < (dif a b).length) : ∃ i : Nat, i < 100 ∧ find (i : Int) a ≠ find (i : Int) b ∧ (dif a b).getD k (0, 0, 0) = ((i : Int), find i a, find i b) := by
  obtain ⟨i, h1, h2, h3⟩ := (mem_dif a b _).1 (gmem (dif a b) k h)
  exact ⟨i, h1, h2, h3⟩

/-- What of the second's changes is not yet in the first. -/
def left (b l m : List (Int × Int)) : List Chg := (dif b m).filter (fun c => decide (find c.1 l ≠ c.2.2))
theorem difF_left (b l m : List (Int × Int)) (n : Nat) (h : ∀ k : Nat, k < n → mclash (find k b) (find k l) (find k m) = false) :
    (difF b m n).filter (fun c => decide (find c.1 l ≠ c.2.2)) = (sel (fun k => decide (find (k : Int) b ≠ find (k : Int) m)) n).filterMap (aloneC b l m) := by
  induction n with
  | zero => rfl
  | succ n ih =>
    have ih := ih fun k hk => h k (by omega)
    have hc := h n (by omega)
    unfold mclash at hc
    rw [decide_eq_false_iff_not] at hc
    rw [difF, sel]
    by_cases h1 : find (n : Int) b = find (n : Int) m
    · rw [if_neg (by simp [h1]), if_neg (by simp [h1]), ih]
    · rw [if_pos h1, if_pos (by simp [h1]), List.filter_append, List.filterMap_append, ih]
      congr 1
      by_cases h2 : find (n : Int) b = find (n : Int) l
      · have h3 : find (n : Int) l ≠ find (n : Int) m := by omega
        simp [aloneC, h2, h3]
      · have h3 : find (n : Int) l = find (n : Int) m := by omega
        simp [aloneC, h3, h1]
theorem left_alone (b l m : List (Int × Int)) (h : mkeys b l m = []) : left b l m = alone b l m := by
  refine difF_left b l m 100 fun k hk => ?_
  cases hm : mclash (find (k : Int) b) (find (k : Int) l) (find (k : Int) m) with
  | false => rfl
  | true =>
    have : (k : Int) ∈ mkeys b l m := (mem_sel _ _ _).2 ⟨k, hk, hm, rfl⟩
    rw [h] at this
    simp at this
theorem left_patch {b l m : List (Int × Int)} (hE : mergeE b l m = 0) (hK : mkeys b l m = []) : patchE l (left b l m) = 0 ∧ patchV l (left b l m) = mrows b l m := by
  have z1 : chk b = 0 := by unfold mergeE at hE; split at hE <;> omega
  have z2 : chk l = 0 := by unfold mergeE at hE; rw [if_neg (by omega)] at hE; split at hE <;> omega
  have z3 : chk m = 0 := by unfold mergeE at hE; rw [if_neg (by omega), if_neg (by omega)] at hE; split at hE <;> omega
  have h := alone_patch z1 z2 z3
  rw [left_alone b l m hK]
  have e0 : patchE l (alone b l m) = 0 := h.1.trans hE
  refine ⟨e0, ?_⟩
  unfold patchV
  rw [if_pos e0, h.2]
end Go.Proofs.Ytcgpgflnihjpiad.M
