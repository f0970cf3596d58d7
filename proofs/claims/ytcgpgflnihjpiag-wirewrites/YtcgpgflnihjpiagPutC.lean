/- wire.putCommit. -/
import Derived.Test.YtcgpgflnihjpiagPen4
import Derived.Test.YtcgpgflnihjpiagSameR
namespace Go.Proofs.Ytcgpgflnihjpiag
open Go.RowKit

theorem M.fm_take {α : Type} (f : α → M.By) (d : α) (l : List α) (k : Nat) (h : k < l.length) : (l.take (k + 1)).flatMap f = (l.take k).flatMap f ++ f (l.getD k d) := by
  rw [List.take_succ_eq_append_getElem h, List.flatMap_append]
  simp [List.getD, h]
theorem M.pRs_len (l : List (Int × Int)) : (l.flatMap M.pR).length = 3 * l.length := by
  induction l with
  | nil => rfl
  | cons r t ih => rw [List.flatMap_cons, List.length_append, ih]; simp [M.pR, M.b2]; omega
theorem getD_mem {α : Type} {l : List α} {k : Nat} {d : α} (h : k < l.length) : l.getD k d ∈ l := by
  rw [show l.getD k d = l[k] by simp [List.getD, h]]; exact List.getElem_mem h

set_option maxRecDepth 100000 in
set_option maxHeartbeats 8000000 in
theorem putc_any (b base : Nat) (l : M.By) (a1 : Option Addr) (n1 c1 : Nat) (a2 : Option Addr) (n2 c2 : Nat) (c : M.Com) (w : World) (hP : PenAt w base b l false) (hrd : ∀ V, Below base w V → Rd V a1 n1 c.1) (hri : ∀ V, Below base w V → Ri V a2 n2 c.2) (hok : M.okCo c) (hll : l.length ≤ 200000) :
    Calls Try.prog 14 #[.pointer (some ⟨b, 0, none⟩), .agg #[.slice a1 n1 c1, .slice a2 n2 c2]] w fun e w' => (∃ v, e = .returned v) ∧ PenAt w' base b (l ++ M.pCo c) false ∧ Below base w w' ∧ Kp w w' := by
  obtain ⟨q, hq⟩ : ∃ q, q = w.heap.size := ⟨_, rfl⟩
  obtain ⟨W, hW⟩ : ∃ W, W = w.alloc (.cells #[.slice a1 n1 c1, .slice a2 n2 c2] 46) := ⟨_, rfl⟩
  have hbW : Below w.heap.size w W := by rw [hW]; exact (Below.refl _ _).alloc (Nat.le_refl _) _
  have hsW : W.heap.size = q + 1 := by rw [hW, hq]; simp
  have hbw : Below base w W := hbW.mono hP.base
  have hkw : Kp w W := Kp.of hbW
  have hW0 : W.heap[q]? = some (.cells #[.slice a1 n1 c1, .slice a2 n2 c2] 46 (0, 0)) := by rw [hW, hq]; exact heap_alloc_new _ _
  have HBx : Hid (∀ V, Kp W V → V.heap[q]? = some (.cells #[.slice a1 n1 c1, .slice a2 n2 c2] 46 (0, 0))) := fun V hV => hV _ _ _ (by decide) (by decide) hW0
  have h1 : c.1.length = n1 := (hrd w (Below.refl _ _)).1
  have h2 : c.2.length = n2 := (hri w (Below.refl _ _)).1
  have hn1 : n1 < 256 := by rw [← h1]; exact hok.1.1
  have hn2 : n2 < 256 := by rw [← h2]; exact hok.2.1
  have HN1 : Aside (c.1.length = n1) := h1
  have HN2 : Aside (c.2.length = n2) := h2
  have HRd : Hid (∀ V, Below base W V → Rd V a1 n1 c.1) := fun V hV => hrd V (hbw.trans hV)
  have HRi : Hid (∀ V, Below base W V → Ri V a2 n2 c.2) := fun V hV => hri V (hbw.trans hV)
  have HOk : Hid (M.okCo c) := hok
  have hPW := hP.later hbW
  obtain ⟨l1, hl1⟩ : ∃ l1, l1 = l ++ [M.b1 (n1 : Int)] := ⟨_, rfl⟩
  have hll1 : l1.length ≤ 200001 := by rw [hl1]; simp; omega
  have K1 := gbyte_any b base l (n1 : Int) W hPW (by omega) (by omega) (by omega)
  rw [hsW, ← hl1] at K1
  have HK1 : Hid (Calls Try.prog 13 #[.pointer (some ⟨b, 0, none⟩), .slice (some ⟨q + 1, 0, none⟩) 1 1] (W.alloc (.cells #[.int .i64 (n1 : Int)] 3)) fun e w' => (∃ v, e = .returned v) ∧ PenAt w' base b l1 false ∧ Below base W w' ∧ Kp W w') := K1
  have HW : Hid (W = w.alloc (.cells #[.slice a1 n1 c1, .slice a2 n2 c2] 46)) := hW
  have HQ : Aside (q = w.heap.size) := hq
  have HL1 : Hid (l1 = l ++ [M.b1 (n1 : Int)]) := hl1
  have HBW : Hid (Below base w W ∧ Kp w W) := ⟨hbw, hkw⟩
  clear hW hq hbW hbw hkw hW0 h1 h2 hrd hri hok hPW hP hl1 K1 hsW
  go_enter Try.func14, Try.ntmps14
  go_wp2_with fail
  rw [← HW.out, ← HQ.out]
  refine HK1.out.mono ?_
  rintro e w1 ⟨⟨v1, rfl⟩, q1, b1, k1⟩
  have HQ1 : Aside (PenAt w1 base b (l1 ++ (c.1.take 0).flatMap M.pR) false) := by unfold Aside; simpa using q1
  have blk := HBx.out w1 k1
  have j0 : w1.cell? ⟨q, 0, none⟩ = some (.slice a1 n1 c1) := by rw [cell_of_row _ _ _ _ _ _ blk]; rfl
  clear blk q1 HK1
  go_wp2_with fail
  go_loopg [15] n1 (fun g i wr => ∃ k : Nat, k + g = n1 ∧ i = .int .i64 k ∧ Aside (PenAt wr base b (l1 ++ (c.1.take k).flatMap M.pR) false) ∧ Below base W wr ∧ Kp W wr)
  case atStart => exact ⟨0, by omega, rfl, HQ1, b1, k1⟩
  case round =>
    obtain ⟨k, hk, rfl, HPk, hbel, hkp⟩ := hrel
    clear j0
    by_cases hkm : k < n1
    · have hki : (k : Int) < (n1 : Int) := by omega
      have hkn : k < c.1.length := by rw [HN1.out]; exact hkm
      obtain ⟨ab, ao, rfl, hab, hc⟩ : ∃ ab ao, a1 = some ⟨ab, ao, none⟩ ∧ ab < wr.heap.size ∧ (wr.cell? ⟨ab, ao + k * 2, none⟩ = some (.int .i64 (c.1.getD k (0, 0)).1) ∧ wr.cell? ⟨ab, ao + k * 2 + 1, none⟩ = some (.int .i64 (c.1.getD k (0, 0)).2)) := by
        rcases (HRd.out wr hbel).cases with ⟨h0, _⟩ | ⟨ab, ao, e, _, _, hB, hc⟩
        · omega
        · exact ⟨ab, ao, e, hB, hc k hkm⟩
      have hr := HOk.out.1.2 _ (getD_mem (d := (0, 0)) hkn)
      have hst := M.fm_take M.pR (0, 0) c.1 k hkn
      obtain ⟨r, hrr⟩ : ∃ r, r = c.1.getD k (0, 0) := ⟨_, rfl⟩
      rw [← hrr] at hc hst hr
      obtain ⟨x0, x1⟩ := r
      obtain ⟨ck, cv⟩ := hc
      obtain ⟨⟨hx0, hx1⟩, hx2, hx3⟩ := hr
      simp only at ck cv hx0 hx1 hx2 hx3
      obtain ⟨lk, hlk⟩ : ∃ lk, lk = l1 ++ (c.1.take k).flatMap M.pR := ⟨_, rfl⟩
      have hlk5 : lk.length ≤ 300000 := by rw [hlk, List.length_append, M.pRs_len, List.length_take]; omega
      rw [← hlk] at HPk
      obtain ⟨W5, hW5⟩ : ∃ W5, W5 = wr.alloc (.cells #[.int .i64 x0, .int .i64 x1] 56) := ⟨_, rfl⟩
      have hb5 : Below wr.heap.size wr W5 := by rw [hW5]; exact (Below.refl _ _).alloc (Nat.le_refl _) _
      have h50 : W5.heap[wr.heap.size]? = some (.cells #[.int .i64 x0, .int .i64 x1] 56 (0, 0)) := by rw [hW5]; exact heap_alloc_new _ _
      have HC5 : Hid (∀ V, Kp W5 V → V.heap[wr.heap.size]? = some (.cells #[.int .i64 x0, .int .i64 x1] 56 (0, 0))) := fun V hV => hV _ _ _ (by decide) (by decide) h50
      have hbel5 : Below base W W5 := hbel.trans (hb5.mono HPk.out.base)
      have hkp5 : Kp W W5 := hkp.trans (Kp.of hb5)
      have hw5s : W5.heap.size = wr.heap.size + 1 := by rw [hW5]; simp
      have K5 := gbyte_any b base lk x0 W5 (HPk.out.later hb5) (by omega) hx0 hx1
      rw [hw5s] at K5
      have HK5 : Hid (Calls Try.prog 13 #[.pointer (some ⟨b, 0, none⟩), .slice (some ⟨wr.heap.size + 1, 0, none⟩) 1 1] (W5.alloc (.cells #[.int .i64 x0] 3)) fun e w' => (∃ v, e = .returned v) ∧ PenAt w' base b (lk ++ [M.b1 x0]) false ∧ Below base W5 w' ∧ Kp W5 w') := K5
      have HK6 : Hid (∀ V, PenAt V base b (lk ++ [M.b1 x0]) false → Calls Try.prog 36 #[.pointer (some ⟨b, 0, none⟩), .slice (some ⟨V.heap.size, 0, none⟩) 1 1] (V.alloc (.cells #[.int .i64 x1] 3)) fun e w' => (∃ v, e = .returned v) ∧ PenAt w' base b ((lk ++ [M.b1 x0]) ++ M.b2 x1) false ∧ Below base V w' ∧ Kp V w') := fun V hV =>
        gpair_any b base _ x1 V hV (by simp; omega) hx2 hx3
      have HSt : Hid ((lk ++ [M.b1 x0]) ++ M.b2 x1 = l1 ++ (c.1.take (k + 1)).flatMap M.pR) := by unfold Hid; rw [hst, hlk]; simp [M.pR]
      have d0 : W5.cell? ⟨wr.heap.size, 0, none⟩ = some (.int .i64 x0) := by rw [cell_of_row _ _ _ _ _ _ h50]; rfl
      have HW5 : Hid (W5 = wr.alloc (.cells #[.int .i64 x0, .int .i64 x1] 56)) := hW5
      rw [hW5] at d0
      clear hst hrr K5 h50 hb5 hW5 hw5s hlk hlk5 hx0 hx1 hx2 hx3
      go_wp2_with fail
      rw [← HW5.out]
      refine HK5.out.mono ?_
      rintro e w6 ⟨⟨v6, rfl⟩, q6, b6, k6⟩
      have blk := HC5.out w6 k6
      have d1 : w6.cell? ⟨wr.heap.size, 1, none⟩ = some (.int .i64 x1) := by rw [cell_of_row _ _ _ _ _ _ blk]; rfl
      have HQ6 : Hid (PenAt w6 base b (lk ++ [M.b1 x0]) false) := q6
      have c6 := hbel5.trans b6
      have e6 := hkp5.trans k6
      clear blk q6 b6 k6 ck cv d0
      go_wp2_with fail
      refine (HK6.out w6 HQ6.out).mono ?_
      rintro e w7 ⟨⟨v7, rfl⟩, q7, b7, k7⟩
      rw [HSt.out] at q7
      have HQ7 : Aside (PenAt w7 base b (l1 ++ (c.1.take (k + 1)).flatMap M.pR) false) := q7
      have c7 := c6.trans b7
      have e7 := e6.trans k7
      clear q7 b7 k7 d1 HK5 HK6
      go_wp2
      go_roundg (gk - 1)
      case measure => omega
      case rel => exact ⟨k + 1, by omega, by go_num, HQ7, c7, e7⟩
    · obtain rfl : k = n1 := by omega
      have hkk2 : decide ((k : Int) < (k : Int)) = false := by simp
      have e1 : c.1.take k = c.1 := List.take_of_length_le (by rw [HN1.out]; exact Nat.le_refl _)
      rw [e1] at HPk
      obtain ⟨lk, hlk⟩ : ∃ lk, lk = l1 ++ c.1.flatMap M.pR := ⟨_, rfl⟩
      have hlk5 : lk.length ≤ 300000 := by rw [hlk, List.length_append, M.pRs_len, HN1.out]; omega
      rw [← hlk] at HPk
      have blk := HBx.out wr hkp
      have j1 : wr.cell? ⟨q, 1, none⟩ = some (.slice a2 n2 c2) := by rw [cell_of_row _ _ _ _ _ _ blk]; rfl
      have HK8 : Hid (Calls Try.prog 13 #[.pointer (some ⟨b, 0, none⟩), .slice (some ⟨wr.heap.size, 0, none⟩) 1 1] (wr.alloc (.cells #[.int .i64 (n2 : Int)] 3)) fun e w' => (∃ v, e = .returned v) ∧ PenAt w' base b (lk ++ [M.b1 (n2 : Int)]) false ∧ Below base wr w' ∧ Kp wr w') := gbyte_any b base lk (n2 : Int) wr HPk.out (by omega) (by omega) (by omega)
      have HK9 : Hid (∀ V, PenAt V base b (lk ++ [M.b1 (n2 : Int)]) false → Below base W V → Calls Try.prog 13 #[.pointer (some ⟨b, 0, none⟩), .slice a2 n2 c2] V fun e w' => (∃ v, e = .returned v) ∧ PenAt w' base b ((lk ++ [M.b1 (n2 : Int)]) ++ c.2.flatMap (fun n => [M.b1 n])) false ∧ Below base V w' ∧ Kp V w') := fun V hV hB =>
        gbytes_any b base _ a2 n2 c2 c.2 V hV (fun V' h' _ => HRi.out V' (hB.trans h')) (by omega) (by simp; omega) HOk.out.2.2
      have HEnd : Hid ((lk ++ [M.b1 (n2 : Int)]) ++ c.2.flatMap (fun n => [M.b1 n]) = l ++ M.pCo c) := by
        unfold Hid M.pCo M.pL
        rw [hlk, HL1.out, HN1.out, HN2.out]
        simp
      clear blk hlk e1 hlk5
      go_wp2_with fail
      refine HK8.out.mono ?_
      rintro e w8 ⟨⟨v8, rfl⟩, q8, b8, k8⟩
      have HQ8 : Hid (PenAt w8 base b (lk ++ [M.b1 (n2 : Int)]) false) := q8
      have c8 := hbel.trans b8
      have e8 := hkp.trans k8
      have blk := HBx.out w8 e8
      have j2 : w8.cell? ⟨q, 1, none⟩ = some (.slice a2 n2 c2) := by rw [cell_of_row _ _ _ _ _ _ blk]; rfl
      clear blk q8 b8 k8 j1 HK8
      go_wp2_with fail
      refine (HK9.out w8 HQ8.out c8).mono ?_
      rintro e w9 ⟨⟨v9, rfl⟩, q9, b9, k9⟩
      rw [HEnd.out] at q9
      have HQ9 : Hid (PenAt w9 base b (l ++ M.pCo c) false) := q9
      have c9 := HBW.out.1.trans (c8.trans b9)
      have e9 := HBW.out.2.trans (e8.trans k9)
      clear q9 b9 k9 j2 HK9
      go_wp2
      go_end0
      exact ⟨⟨_, rfl⟩, HQ9.out, c9, e9⟩
end Go.Proofs.Ytcgpgflnihjpiag
