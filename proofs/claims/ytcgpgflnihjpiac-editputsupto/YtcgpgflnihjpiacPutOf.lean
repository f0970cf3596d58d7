/- The reference's PutOf. -/
import Derived.Test.YtcgpgflnihjpiacTable
namespace Go.Proofs.Ytcgpgflnihjpiac
open Go.RowKit

set_option maxHeartbeats 4000000 in
theorem putOf_ok (a : Option Addr) (n cap : Nat) (l : List (Int × Int)) (key val : Int) (w : World) (h : Rd w a n l) (h0 : M.chk l = 0) (hk0 : 0 ≤ key) (hk1 : key ≤ 99) (hv0 : -1 ≤ val) (hv1 : val ≤ 996) :
    Calls Try.prog 30 #[.slice a n cap, .int .i64 key, .int .i64 val] w fun e w' => Hands w w' (M.putV l key val) (M.putE l key val) e := by
  obtain ⟨Z, hZ, hz⟩ := zeroTable
  have hn40 : n ≤ 40 := by rw [← h.1]; exact ((M.chk_zero l).1 h0).1
  have H := error_any a n cap l w h (by omega)
  rw [h0] at H
  have HH : Aside (Calls Try.prog 52 #[.slice a n cap] w fun e w' => e = .returned (.int .i64 0) ∧ Below w.heap.size w w') := H
  have HR : Aside (Rd w a n l) := h
  have hasked := M.asked_ok h0 hk0 hk1
  have HOk : Aside (M.Ok l) := ((M.chk_zero l).1 h0).2
  have HAsk : Aside (M.asked l key = 0) := hasked
  clear H h h0 hasked
  obtain ⟨kn, rfl⟩ := Int.eq_ofNat_of_zero_le hk0
  go_enter Try.func30, Try.ntmps30
  go_wp2_with fail
  refine HH.out.mono ?_
  rintro e w1 ⟨rfl, b1⟩
  go_wp2_with fail
  refine (isKey_yes _ _ hk0 hk1).mono ?_
  rintro e w1' ⟨rfl, hw⟩
  subst hw
  go_wp2_with fail
  refine (within_yes _ _ _ _ hv0 hv1).mono ?_
  rintro e w1'' ⟨rfl, hw⟩
  subst hw
  go_wp2_with fail
  refine (spread_any a n cap l _ (HR.out.below b1 (Nat.le_refl _)) hn40).mono ?_
  rintro e w2 ⟨cs, rfl, hcs, hcf, b2⟩
  have q2 := below2 b1 b2
  have HCs : Aside (cs.size = 100) := hcs
  have HCf : Aside (∀ i : Nat, i < 100 → cs[i]? = some (.int .i64 (M.find i l))) := hcf
  clear hcs hcf b1 b2
  obtain ⟨W3, hW3⟩ : ∃ W3, W3 = (w2.alloc (.cells Z 80)).setRow w2.heap.size cs := ⟨_, rfl⟩
  have hrow3 : W3.heap[w2.heap.size]? = some (.cells cs 80 (0, 0)) := by rw [hW3]; exact setRow_heap _ _ Z cs _ _ (heap_alloc_new w2 _)
  have b3 : Below w2.heap.size w2 W3 := by rw [hW3]; exact below_setRow ((Below.refl _ _).alloc (Nat.le_refl _) _) (Nat.le_refl _) cs
  have hkn : kn < 100 := by omega
  have c3 : W3.cell? ⟨w2.heap.size, kn, none⟩ = some (.int .i64 (M.find kn l)) := (cell_of_row W3 _ kn cs _ _ hrow3).trans (HCf.out kn hkn)
  have f3 : W3.frozen? ⟨w2.heap.size, kn, none⟩ = false := frozen_of_row W3 _ kn cs _ hrow3
  obtain ⟨u3, hu3⟩ : ∃ u, u = M.find kn l := ⟨_, rfl⟩
  rw [← hu3] at c3
  obtain ⟨W4, hW4⟩ : ∃ W4, W4 = W3.setCell ⟨w2.heap.size, kn, none⟩ (.int .i64 val) := ⟨_, rfl⟩
  obtain ⟨cs4, hcs4⟩ : ∃ cs4, cs4 = cs.setIfInBounds kn (.int .i64 val) := ⟨_, rfl⟩
  have hrow4 : W4.heap[w2.heap.size]? = some (.cells cs4 80 (0, 0)) := by rw [hW4, hcs4]; exact heap_setCell_same W3 _ kn cs _ _ hrow3
  have b4 : Below w2.heap.size w2 W4 := by rw [hW4]; exact b3.setCell (p := ⟨w2.heap.size, kn, none⟩) (Nat.le_refl _) _
  have HSz4 : Aside (cs4.size = 100) := by rw [hcs4]; simpa [Aside] using HCs.out
  have hf4 : ∀ i : Nat, i < 100 → cs4[i]? = some (.int .i64 (if (i : Int) = (kn : Int) then val else M.find i l)) := fun i hi => by
    rw [hcs4, set_get cs kn i _ (by rw [HCs.out]; exact hkn)]
    by_cases e : kn = i
    · subst e; rw [if_pos rfl, if_pos rfl]
    · rw [if_neg e, if_neg (by omega)]; exact HCf.out i hi
  have hone : Aside (cs.all (·.oneCell') = true) := by
    refine Array.all_eq_true_iff_forall_mem.2 fun v hv => ?_
    obtain ⟨j, hj, e⟩ := Array.mem_iff_getElem.1 hv
    have h2 := HCf.out j (by rw [← HCs.out]; exact hj)
    rw [Array.getElem?_eq_getElem hj, e] at h2
    cases h2
    rfl
  have hfold := M.fold_put HOk.out hk0 hk1 hv0 hv1 (fun i : Nat => if (i : Int) = (kn : Int) then val else M.find i l) (fun i _ => rfl)
  have HFo : Aside (Calls Try.prog 55 #[.agg cs4] W4 fun e w' => ∃ ra rn rc, e = .returned (.slice ra rn rc) ∧ Aside (Rd w' ra rn (M.put kn val l) ∧ rn ≤ rc ∧ rc ≤ maxLen ∧ (ra = none → rn = 0 ∧ rc = 0)) ∧ Below W4.heap.size W4 w') := by
    refine (folded_any cs4 _ W4 hf4).mono ?_
    rintro e w' ⟨v, rfl, ho, hb⟩
    rw [hfold] at ho
    obtain ⟨ra, rc, rfl, r1, r2, r3, r4⟩ := ho.rd
    exact ⟨ra, _, rc, rfl, ⟨r1, r2, r3, r4⟩, hb⟩
  have HW3 : Hid (W3 = (w2.alloc (.cells Z 80)).setRow w2.heap.size cs) := hW3
  have HW4 : Hid (W4 = W3.setCell ⟨w2.heap.size, kn, none⟩ (.int .i64 val)) := hW4
  have HR4 : Hid (W4.heap[w2.heap.size]? = some (.cells cs4 80 (0, 0))) := hrow4
  have HZ0 : Hid (Z.size = 100) := hZ
  clear hW3 hW4 hrow3 hrow4 hf4 hfold hu3 hcs4 HCf hZ
  go_wp2_with (first | (refine wpList_store_row rfl 80 _ _ rfl w2.heap.size cs rfl rfl 80 Z (heap_alloc_new w2 _) (by rw [HCs.out]; exact infoTable) (by rw [HCs.out]; exact HZ0.out) hone.out ?_; rw [← HW3.out]) | (refine wpList_load_row rfl 80 _ rfl w2.heap.size rfl 80 cs4 _ _ (by rw [← HW4.out]; exact HR4.out) Try.underlying80 rfl (by rw [HSz4.out]; exact infoTable) ?_; rw [← HW4.out]))
  refine HFo.out.mono ?_
  rintro e w5 ⟨ra, rn, rc, rfl, HRd, b5⟩
  have q5 : Below w.heap.size w w5 := below2 (below2 q2 b4) b5
  have hrl : (M.put kn val l).length = rn := HRd.out.1.1
  have hrm : rn ≤ 9223372036854775807 := by have h1 := HRd.out.2.1; have h2 := HRd.out.2.2.1; unfold maxLen at h2; omega
  by_cases h40 : 40 < rn
  · have e1 := M.putE_many HAsk.out hv0 hv1 (by rw [hrl]; exact h40)
    have F : Aside (Hands w w5 (M.putV l kn val) (M.putE l kn val) (.returned (.tuple #[.slice none 0 0, .int .i64 2]))) := by rw [M.putV_no (by omega), e1]; exact Hands.err 2 q5
    clear e1 hrl HFo
    go_wp2
    go_ret2
    exact F.out
  · have e1 := M.putE_ok HAsk.out hv0 hv1 (by rw [hrl]; omega)
    have F : Aside (Hands w w5 (M.putV l kn val) (M.putE l kn val) (.returned (.tuple #[.slice ra rn rc, .int .i64 0]))) := by rw [M.putV_ok e1, e1]; exact ⟨ra, rn, rc, rfl, HRd.out.1, HRd.out.2.1, HRd.out.2.2.1, HRd.out.2.2.2, q5⟩
    clear e1 hrl HFo
    go_wp2
    go_ret2
    exact F.out

set_option maxHeartbeats 2000000 in
theorem putOf_any (a : Option Addr) (n cap : Nat) (l : List (Int × Int)) (key val : Int) (w : World) (h : Rd w a n l) (hm : n ≤ 9223372036854775807) :
    Calls Try.prog 30 #[.slice a n cap, .int .i64 key, .int .i64 val] w fun e w' => Hands w w' (M.putV l key val) (M.putE l key val) e := by
  have H := error_any a n cap l w h hm
  by_cases h0 : M.chk l = 0
  · by_cases hk : key < 0 ∨ 99 < key
    · have e0 := M.asked_range h0 hk
      have e1 := M.putE_bad (val := val) (show M.asked l key ≠ 0 by omega)
      rw [e0] at e1
      rw [M.putV_no (by omega), e1]
      rw [h0] at H
      have HH : Hid (Calls Try.prog 52 #[.slice a n cap] w fun e w' => e = .returned (.int .i64 0) ∧ Below w.heap.size w w') := H
      have HK : Hid (key < 0 ∨ 99 < key) := hk
      clear H h0 h hk e0 e1
      go_enter Try.func30, Try.ntmps30
      go_wp2_with (first | (go_at_call 52; refine HH.out.mono ?_; rintro e w' ⟨rfl, hb1⟩) | (go_at_call 59; refine (isKey_no _ _ HK.out).mono ?_; rintro e w' ⟨rfl, rfl⟩))
      go_ret2
      exact Hands.err 3 hb1
    · have k0 : 0 ≤ key := by omega
      have k1 : key ≤ 99 := by omega
      by_cases hv : val < -1 ∨ 996 < val
      · have e1 := M.putE_range (M.asked_ok h0 k0 k1) hv
        rw [M.putV_no (by omega), e1]
        rw [h0] at H
        have HH : Hid (Calls Try.prog 52 #[.slice a n cap] w fun e w' => e = .returned (.int .i64 0) ∧ Below w.heap.size w w') := H
        have HV : Hid (val < -1 ∨ 996 < val) := hv
        clear H h0 h hk hv e1
        go_enter Try.func30, Try.ntmps30
        go_wp2_with (first | (go_at_call 52; refine HH.out.mono ?_; rintro e w' ⟨rfl, hb1⟩) | (go_at_call 59; refine (isKey_yes _ _ k0 k1).mono ?_; rintro e w' ⟨rfl, rfl⟩) | (go_at_call 60; refine (within_no _ _ _ _ HV.out).mono ?_; rintro e w' ⟨rfl, rfl⟩))
        go_ret2
        exact Hands.err 3 hb1
      · exact putOf_ok a n cap l key val w h h0 k0 k1 (by omega) (by omega)
  · have e0 := M.asked_bad (key := key) h0
    have e1 := M.putE_bad (val := val) (show M.asked l key ≠ 0 by omega)
    rw [e0] at e1
    rw [M.putV_no (by omega), e1]
    obtain ⟨c, hc⟩ : ∃ c, c = M.chk l := ⟨_, rfl⟩
    rw [← hc] at H h0 ⊢
    have hne : (c != 0) = true := by simp [h0]
    clear hc h h0 e0 e1
    have HH : Hid (Calls Try.prog 52 #[.slice a n cap] w fun e w' => e = .returned (.int .i64 c) ∧ Below w.heap.size w w') := H
    clear H
    go_enter Try.func30, Try.ntmps30
    go_wp2_with (go_at_call 52; refine HH.out.mono ?_; rintro e w' ⟨rfl, hb1⟩)
    go_ret2
    exact Hands.err _ hb1
end Go.Proofs.Ytcgpgflnihjpiac
