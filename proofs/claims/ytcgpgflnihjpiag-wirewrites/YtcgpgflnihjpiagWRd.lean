/- wire.Read. -/
import Derived.Test.YtcgpgflnihjpiagRdr6
import Derived.Test.YtcgpgflnihjpiagRepo1
import Derived.Test.YtcgpgflnihjpiagResS
namespace Go.Proofs.Ytcgpgflnihjpiag
open Go.RowKit

theorem M.readR_some {l : M.By} {x : List M.Com × List (M.By × Int)} {t : M.By} (h : M.rRe l = some (x, t)) : M.readR l = if t = [] ∧ M.rchk x.1 (x.2.map M.hdS) = 0 then some (x.1, x.2.map M.hdS) else none := by
  unfold M.readR
  rw [h]
  cases t with
  | nil => simp
  | cons b u => simp
theorem M.readR_none {l : M.By} (h : M.rRe l = none) : M.readR l = none := by unfold M.readR; rw [h]

set_option maxRecDepth 100000 in
set_option maxHeartbeats 8000000 in
theorem wread_any (l : M.By) (w : World) (hl : l.length ≤ 9223372036854775807) :
    Calls Try.prog 8 #[.string (M.str l)] w fun e w' => Below w.heap.size w w' ∧
      ((4096 < l.length ∧ e = .returned (.tuple #[.agg #[.slice none 0 0, .slice none 0 0], .int .i64 2])) ∨
       (l.length ≤ 4096 ∧ M.readR l = none ∧ e = .returned (.tuple #[.agg #[.slice none 0 0, .slice none 0 0], .int .i64 1])) ∨
       (l.length ≤ 4096 ∧ ∃ C H v, M.readR l = some (C, H) ∧ e = .returned (.tuple #[v, .int .i64 0]) ∧ RepoOwn w' w.heap.size v C H)) := by
  obtain ⟨s, hs⟩ : ∃ s, s = M.str l := ⟨_, rfl⟩
  have hsz : s.size = l.length := by rw [hs, M.str_size]
  obtain ⟨L, hL⟩ : ∃ L, L = l.length := ⟨_, rfl⟩
  rw [← hL] at hsz hl
  obtain ⟨R, hR⟩ : ∃ R, R = w.heap.size := ⟨_, rfl⟩
  obtain ⟨W, hW⟩ : ∃ W, W = w.alloc (.cells #[.slice none 0 0, .slice none 0 0] 25) := ⟨_, rfl⟩
  have hb : Below w.heap.size w W := by rw [hW]; exact (Below.refl _ _).alloc (Nat.le_refl _) _
  have q0 : W.heap[R]? = some (.cells #[.slice none 0 0, .slice none 0 0] 25 (0, 0)) := by rw [hW, hR]; exact heap_alloc_new _ _
  have HQ0 : Hid (W.heap[R]? = some (.cells #[.slice none 0 0, .slice none 0 0] 25 (0, 0))) := q0
  have HW : Hid (W = w.alloc (.cells #[.slice none 0 0, .slice none 0 0] 25)) := hW
  have HR : Aside (R = w.heap.size) := hR
  have HLl : Aside (L = l.length) := hL
  have fin : ∀ (V : World) (u v : Value), Below W.heap.size W V → (((V.setCell ⟨R, 0, none⟩ u).setCell ⟨R, 1, none⟩ v).cell? ⟨R, 0, none⟩ = some u ∧ ((V.setCell ⟨R, 0, none⟩ u).setCell ⟨R, 1, none⟩ v).cell? ⟨R, 1, none⟩ = some v ∧ Below w.heap.size w ((V.setCell ⟨R, 0, none⟩ u).setCell ⟨R, 1, none⟩ v) ∧ V.cell? ⟨R, 0, none⟩ = some (.slice none 0 0) ∧ V.cell? ⟨R, 1, none⟩ = some (.slice none 0 0) ∧ V.frozen? ⟨R, 0, none⟩ = false ∧ V.frozen? ⟨R, 1, none⟩ = false ∧ V.heap[R]? = some (.cells #[.slice none 0 0, .slice none 0 0] 25 (0, 0))) := fun V u v hV => by
    have r1 : V.heap[R]? = some (.cells #[.slice none 0 0, .slice none 0 0] 25 (0, 0)) := (hV.block R (Array.getElem?_eq_some_iff.1 q0).1).trans q0
    obtain ⟨g1, _, _⟩ := res_set r1 u v
    have hwR : w.heap.size ≤ R := by omega
    have hbV : Below w.heap.size w V := hb.trans (hV.mono hb.size)
    exact ⟨by rw [cell_of_row _ _ _ _ _ _ g1]; rfl, by rw [cell_of_row _ _ _ _ _ _ g1]; rfl, (hbV.setCell (p := ⟨R, 0, none⟩) hwR _).setCell (p := ⟨R, 1, none⟩) hwR _, by rw [cell_of_row _ _ _ _ _ _ r1]; rfl, by rw [cell_of_row _ _ _ _ _ _ r1]; rfl, frozen_of_row _ _ _ _ _ r1, frozen_of_row _ _ _ _ _ r1, r1⟩
  have HFin : Hid (∀ (V : World) (u v : Value), Below W.heap.size W V → (((V.setCell ⟨R, 0, none⟩ u).setCell ⟨R, 1, none⟩ v).cell? ⟨R, 0, none⟩ = some u ∧ ((V.setCell ⟨R, 0, none⟩ u).setCell ⟨R, 1, none⟩ v).cell? ⟨R, 1, none⟩ = some v ∧ Below w.heap.size w ((V.setCell ⟨R, 0, none⟩ u).setCell ⟨R, 1, none⟩ v) ∧ V.cell? ⟨R, 0, none⟩ = some (.slice none 0 0) ∧ V.cell? ⟨R, 1, none⟩ = some (.slice none 0 0) ∧ V.frozen? ⟨R, 0, none⟩ = false ∧ V.frozen? ⟨R, 1, none⟩ = false ∧ V.heap[R]? = some (.cells #[.slice none 0 0, .slice none 0 0] 25 (0, 0)))) := fin
  clear fin q0
  by_cases h : 4096 < L
  · have hb4 : decide ((4096 : Int) < (L : Int)) = true := by simp; omega
    have HL : Hid (4096 < l.length) := by unfold Hid; omega
    obtain ⟨_, _, _, c0, c1, _⟩ := HFin.out W (.slice none 0 0) (.slice none 0 0) (Below.refl _ _)
    have HX0 : Aside (W.cell? ⟨R, 0, none⟩ = some (.slice none 0 0)) := c0
    have HX1 : Aside (W.cell? ⟨R, 1, none⟩ = some (.slice none 0 0)) := c1
    have HBX : Hid (Below w.heap.size w W) := hb
    rw [← hs]
    clear hL hs h hW hR c0 c1
    go_enter Try.func8, Try.ntmps8
    go_wp2
    rw [← HW.out, ← HR.out]
    have y0 := HX0.out
    have y1 := HX1.out
    refine bodyPost_ret (v := .tuple #[.agg #[.slice none 0 0, .slice none 0 0], .int .i64 2]) (by simp [results, Try.results8, go_sem, y0, y1]) rfl ?_
    exact ⟨by rw [HR.out]; exact HBX.out, Or.inl ⟨HL.out, rfl⟩⟩
  · have hb4 : decide ((4096 : Int) < (L : Int)) = false := by simp; omega
    have HL : Hid (l.length ≤ 4096) := by unfold Hid; omega
    have K := readRe_any l W (by omega)
    rw [← hs, ← hL] at K
    have HK : Hid (Calls Try.prog 22 #[.string s, .func (.func 23) #[] #[]] W fun e w' => Below W.heap.size W w' ∧
      ((∃ x t v, M.rRe l = some (x, t) ∧ e = .returned (.tuple #[v, .int .i64 ((L - t.length : Nat) : Int), .int .i64 0]) ∧ isRepo W.heap.size x v w') ∨
       (M.rRe l = none ∧ e = .returned (.tuple #[.agg #[.slice none 0 0, .slice none 0 0], .int .i64 0, .int .i64 1])))) := K
    rw [← hs]
    clear hL hs h hW hR K
    go_enter Try.func8, Try.ntmps8
    go_wp2_with fail
    rw [← HW.out, ← HR.out]
    refine HK.out.mono ?_
    rintro e w1 ⟨b1, ⟨x, t, v, h1, rfl, ha⟩ | ⟨h1, rfl⟩⟩
    · obtain ⟨ca, cc, da, dc, hv, V1⟩ := RepoOwn.v ha
      obtain ⟨cn, hcn⟩ : ∃ cn, cn = x.1.length := ⟨_, rfl⟩
      obtain ⟨dn, hdn⟩ : ∃ dn, dn = (x.2.map M.hdS).length := ⟨_, rfl⟩
      rw [← hcn, ← hdn] at hv V1
      subst hv
      have hRe := M.readR_some h1
      obtain ⟨E, hE⟩ : ∃ E, E = M.rchk x.1 (x.2.map M.hdS) := ⟨_, rfl⟩
      rw [← hE] at hRe
      have htl : t.length ≤ L := by have := congrArg List.length (M.rRe_inv h1).1; rw [List.length_append] at this; have := HLl.out; omega
      obtain ⟨m, hm⟩ : ∃ m, m = L - t.length := ⟨_, rfl⟩
      rw [← hm]
      have HRe : Hid (M.readR l = if t = [] ∧ E = 0 then some (x.1, x.2.map M.hdS) else none) := hRe
      obtain ⟨W2, hW2⟩ : ∃ W2, W2 = w1.alloc (.cells #[.slice ca cn cc, .slice da dn dc] 25) := ⟨_, rfl⟩
      obtain ⟨p2, hp2⟩ : ∃ p2, p2 = w1.heap.size := ⟨_, rfl⟩
      have b2 : Below w1.heap.size w1 W2 := by rw [hW2]; exact (Below.refl _ _).alloc (Nat.le_refl _) _
      have c2 : Below W.heap.size W W2 := b1.trans (b2.mono b1.size)
      have V2 := V1.later b2
      have HRO : Hid (RepoOwn W2 w.heap.size (.agg #[.slice ca cn cc, .slice da dn dc]) x.1 (x.2.map M.hdS)) := (RepoOwn.later ha b2).lower hb.size
      have KC : Hid (Calls Try.prog 12 #[.agg #[.slice ca cn cc, .slice da dn dc]] W2 fun e w' => e = .returned (.int .i64 E) ∧ Below W2.heap.size W2 w') := by rw [hE]; exact rcheck_any ca cn cc _ da dn dc _ W2 V2.cm V2.nm V2.hs V2.hm
      have HP2 : Aside (p2 = w1.heap.size) := hp2
      have HW2 : Hid (W2 = w1.alloc (.cells #[.slice ca cn cc, .slice da dn dc] 25)) := hW2
      have h20 : W2.heap[p2]? = some (.cells #[.slice ca cn cc, .slice da dn dc] 25 (0, 0)) := by rw [hW2, hp2]; exact heap_alloc_new _ _
      have HB2 : Hid (∀ V, Below W2.heap.size W2 V → V.heap[p2]? = some (.cells #[.slice ca cn cc, .slice da dn dc] 25 (0, 0))) := fun V hV => (hV.block p2 (Array.getElem?_eq_some_iff.1 h20).1).trans h20
      by_cases ht : t = []
      · have hmL : m = L := by rw [hm, ht]; simp
        have hmb : decide (m < L) = false := by simp; omega
        have HT : Hid (t = []) := ht
        clear hm hmL htl ht hE hRe h1 V1 V2 hW2 hp2 b2 ha hcn hdn HK h20
        go_wp2_with fail
        rw [← HW2.out, ← HP2.out]
        refine KC.out.mono ?_
        rintro e w3 ⟨rfl, b3⟩
        have c3 := c2.trans (b3.mono c2.size)
        have HC3 : Hid (Below W2.heap.size W2 w3) := b3
        by_cases hE0 : E = 0
        · subst hE0
          have blk := HB2.out w3 b3
          have k0 : w3.cell? ⟨p2, 0, none⟩ = some (.slice ca cn cc) := by rw [cell_of_row _ _ _ _ _ _ blk]; rfl
          have k1 : w3.cell? ⟨p2, 1, none⟩ = some (.slice da dn dc) := by rw [cell_of_row _ _ _ _ _ _ blk]; rfl
          obtain ⟨x0, x1, bX, g0, g1, f0, f1, rX⟩ := HFin.out w3 (.slice ca cn cc) (.slice da dn dc) c3
          obtain ⟨X, hX⟩ : ∃ X, X = (w3.setCell ⟨R, 0, none⟩ (.slice ca cn cc)).setCell ⟨R, 1, none⟩ (.slice da dn dc) := ⟨_, rfl⟩
          rw [← hX] at x0 x1 bX
          have HX : Hid (X = (w3.setCell ⟨R, 0, none⟩ (.slice ca cn cc)).setCell ⟨R, 1, none⟩ (.slice da dn dc)) := hX
          have HX0 : Aside (X.cell? ⟨R, 0, none⟩ = some (.slice ca cn cc) ∧ X.cell? ⟨R, 1, none⟩ = some (.slice da dn dc)) := ⟨x0, x1⟩
          have HBX : Hid (Below w.heap.size w X) := bX
          have HOX : Hid (RepoOwn X w.heap.size (.agg #[.slice ca cn cc, .slice da dn dc]) x.1 (x.2.map M.hdS)) := by
            obtain ⟨xx, yy, e, h4, h5⟩ := HRO.out.later b3
            simp at e
            obtain ⟨rfl, rfl⟩ := e
            unfold Hid
            rw [hX]
            exact repoOwn_set rX h4 h5
          have HRe2 : Hid (M.readR l = some (x.1, x.2.map M.hdS)) := by unfold Hid; rw [HRe.out, if_pos ⟨HT.out, rfl⟩]
          clear blk x0 x1 bX rX hX b3 KC
          go_wp2
          rw [← HX.out]
          obtain ⟨y0, y1⟩ := HX0.out
          refine bodyPost_ret (v := .tuple #[.agg #[.slice ca cn cc, .slice da dn dc], .int .i64 0]) (by simp [results, Try.results8, go_sem, y0, y1]) rfl ?_
          exact ⟨HBX.out, Or.inr (Or.inr ⟨HL.out, _, _, _, HRe2.out, rfl, HOX.out⟩)⟩
        · have hEb : (E != 0) = true := by simp [hE0]
          obtain ⟨x0, x1, bX, g0, g1, f0, f1, rX⟩ := HFin.out w3 (.slice none 0 0) (.slice none 0 0) c3
          obtain ⟨X, hX⟩ : ∃ X, X = (w3.setCell ⟨R, 0, none⟩ (.slice none 0 0)).setCell ⟨R, 1, none⟩ (.slice none 0 0) := ⟨_, rfl⟩
          rw [← hX] at x0 x1 bX
          have HX : Hid (X = (w3.setCell ⟨R, 0, none⟩ (.slice none 0 0)).setCell ⟨R, 1, none⟩ (.slice none 0 0)) := hX
          have HX0 : Aside (X.cell? ⟨R, 0, none⟩ = some (.slice none 0 0) ∧ X.cell? ⟨R, 1, none⟩ = some (.slice none 0 0)) := ⟨x0, x1⟩
          have HBX : Hid (Below w.heap.size w X) := bX
          have HRe2 : Hid (M.readR l = none) := by unfold Hid; rw [HRe.out, if_neg (fun h => hE0 h.2)]
          clear x0 x1 bX rX hX b3 KC hE0
          go_wp2
          rw [← HX.out]
          obtain ⟨y0, y1⟩ := HX0.out
          refine bodyPost_ret (v := .tuple #[.agg #[.slice none 0 0, .slice none 0 0], .int .i64 1]) (by simp [results, Try.results8, go_sem, y0, y1]) rfl ?_
          exact ⟨HBX.out, Or.inr (Or.inl ⟨HL.out, HRe2.out, rfl⟩)⟩
      · have htp : 0 < t.length := List.length_pos_iff.2 ht
        have hmb : decide (m < L) = true := by simp; omega
        have HRe2 : Hid (M.readR l = none) := by unfold Hid; rw [HRe.out, if_neg (fun h => ht h.1)]
        obtain ⟨x0, x1, bX, g0, g1, f0, f1, rX⟩ := HFin.out W2 (.slice none 0 0) (.slice none 0 0) c2
        obtain ⟨X, hX⟩ : ∃ X, X = (W2.setCell ⟨R, 0, none⟩ (.slice none 0 0)).setCell ⟨R, 1, none⟩ (.slice none 0 0) := ⟨_, rfl⟩
        rw [← hX] at x0 x1 bX
        have HX : Hid (X = (W2.setCell ⟨R, 0, none⟩ (.slice none 0 0)).setCell ⟨R, 1, none⟩ (.slice none 0 0)) := hX
        have HX0 : Aside (X.cell? ⟨R, 0, none⟩ = some (.slice none 0 0) ∧ X.cell? ⟨R, 1, none⟩ = some (.slice none 0 0)) := ⟨x0, x1⟩
        have HBX : Hid (Below w.heap.size w X) := bX
        rw [hW2] at g0 g1 f0 f1
        clear hm htl htp ht hE hRe h1 V1 V2 hW2 hp2 b2 ha hcn hdn HK h20 x0 x1 bX rX hX KC
        go_wp2
        rw [← HW2.out, ← HX.out]
        obtain ⟨y0, y1⟩ := HX0.out
        refine bodyPost_ret (v := .tuple #[.agg #[.slice none 0 0, .slice none 0 0], .int .i64 1]) (by simp [results, Try.results8, go_sem, y0, y1]) rfl ?_
        exact ⟨HBX.out, Or.inr (Or.inl ⟨HL.out, HRe2.out, rfl⟩)⟩
    · have HRe2 : Hid (M.readR l = none) := M.readR_none h1
      obtain ⟨W2, hW2⟩ : ∃ W2, W2 = w1.alloc (.cells #[.slice none 0 0, .slice none 0 0] 25) := ⟨_, rfl⟩
      have b2 : Below w1.heap.size w1 W2 := by rw [hW2]; exact (Below.refl _ _).alloc (Nat.le_refl _) _
      have c2 : Below W.heap.size W W2 := b1.trans (b2.mono b1.size)
      have HW2 : Hid (W2 = w1.alloc (.cells #[.slice none 0 0, .slice none 0 0] 25)) := hW2
      obtain ⟨x0, x1, bX, g0, g1, f0, f1, rX⟩ := HFin.out W2 (.slice none 0 0) (.slice none 0 0) c2
      obtain ⟨X, hX⟩ : ∃ X, X = (W2.setCell ⟨R, 0, none⟩ (.slice none 0 0)).setCell ⟨R, 1, none⟩ (.slice none 0 0) := ⟨_, rfl⟩
      rw [← hX] at x0 x1 bX
      have HX : Hid (X = (W2.setCell ⟨R, 0, none⟩ (.slice none 0 0)).setCell ⟨R, 1, none⟩ (.slice none 0 0)) := hX
      have HX0 : Aside (X.cell? ⟨R, 0, none⟩ = some (.slice none 0 0) ∧ X.cell? ⟨R, 1, none⟩ = some (.slice none 0 0)) := ⟨x0, x1⟩
      have HBX : Hid (Below w.heap.size w X) := bX
      rw [hW2] at g0 g1 f0 f1
      clear h1 hW2 b2 HK x0 x1 bX rX hX
      go_wp2
      rw [← HW2.out, ← HX.out]
      obtain ⟨y0, y1⟩ := HX0.out
      refine bodyPost_ret (v := .tuple #[.agg #[.slice none 0 0, .slice none 0 0], .int .i64 1]) (by simp [results, Try.results8, go_sem, y0, y1]) rfl ?_
      exact ⟨HBX.out, Or.inr (Or.inl ⟨HL.out, HRe2.out, rfl⟩)⟩
end Go.Proofs.Ytcgpgflnihjpiag
