/- For every repo, every name and every list of changes, the law WorkBack returns true and leaves its arguments as they were: what was put, put back, is as it was. No condition. -/
import Derived.Test.YtcgpgflnihjpiafGreatBWorkBack09
import Derived.Test.YtcgpgflnihjpiafGreatRows
import Derived.Test.YtcgpgflnihjpiafGreatBWorkBack01
import Derived.ProofKit
import Derived.OpenShut
import Derived.ChangeOld
import Derived.Deep.SlicePairs
import Derived.Deep.RegionHeld
import Derived.Lib.SmallJoins
import Derived.ChangeMaps5
import Derived.Test.YtcgpgflnihjpiafGreatBWorkBack02
import Derived.Test.YtcgpgflnihjpiafGreatBWorkBack04
import Derived.Test.YtcgpgflnihjpiafGreatBWorkBack03
namespace Go.Proofs.YtcgpgflnihjpiafGreat
open Go.RowKit Go.Shelf

theorem Cm.nth {w : World} {a : Option Addr} {n : Nat} {C : List M.Com} (h : Cm w a n C) {k : Nat} (hk : k < n) : ∃ b off, a = some ⟨b, off, none⟩ ∧ b < w.heap.size ∧ ∃ a1 n1 c1 a2 n2 c2, w.cell? ⟨b, off + k * 2, none⟩ = some (.slice a1 n1 c1) ∧ w.cell? ⟨b, off + k * 2 + 1, none⟩ = some (.slice a2 n2 c2) ∧ Rd w a1 n1 (C.getD k ([], [])).1 ∧ Ri w a2 n2 (C.getD k ([], [])).2 ∧ n1 ≤ 9223372036854775807 ∧ n2 ≤ 9223372036854775807 := by
  rcases h.cases with ⟨h0, _⟩ | ⟨b, off, e, _, _, hB, hc⟩
  · omega
  · exact ⟨b, off, e, hB, hc k hk⟩
/-- A repo of the call's own in the box D, whose head k is set at another commit. -/
theorem boxed_moved {w : World} {B D g cap k : Nat} {x : Value} {C : List M.Com} {H : List M.Hd} (n : Int) (h1 : w.heap[D]? = some (.cells #[x, .slice (some ⟨g, 0, none⟩) H.length cap] 25 (0, 0))) (h3 : OwnK w B x C) (h4 : OwnH w B (.slice (some ⟨g, 0, none⟩) H.length cap) H) (hk : k < H.length) :
    (w.setCell ⟨g, k * 2 + 1, none⟩ (.int .i64 n)).heap[D]? = some (.cells #[x, .slice (some ⟨g, 0, none⟩) H.length cap] 25 (0, 0)) ∧ OwnK (w.setCell ⟨g, k * 2 + 1, none⟩ (.int .i64 n)) B x C ∧ OwnH (w.setCell ⟨g, k * 2 + 1, none⟩ (.int .i64 n)) B (.slice (some ⟨g, 0, none⟩) H.length cap) (M.setH H k n) ∧ w.frozen? ⟨g, k * 2 + 1, none⟩ = false ∧ B ≤ g ∧ w.cell? ⟨g, k * 2 + 1, none⟩ = some (.int .i64 (H.getD k M.hd0).2) := by
  have h40 := h4.1
  obtain ⟨⟨hl, hor⟩, hsm⟩ := h4
  rcases hor with ⟨e, _⟩ | ⟨g', cap', cur, e, hb, hh, hc, hm, hz, hx⟩
  · simp at e
  · simp only [Value.slice.injEq, Option.some.injEq, Addr.mk.injEq] at e
    obtain ⟨⟨rfl, _⟩, _, rfl⟩ := e
    have gg := grownBy_set w ⟨g, k * 2 + 1, none⟩ (.int .i64 n)
    have hgD : g ≠ D := fun e => by rw [e, h1] at hh; simp at hh
    refine ⟨?_, h3.elsewhere gg hh (by decide) (by decide) (by decide), ⟨⟨?_, Or.inr ⟨g, cap, cur.setIfInBounds (k * 2 + 1) (.int .i64 n), by simp [M.setH], hb, ?_, by simpa [M.setH] using hc, hm, by simpa using hz, ?_⟩⟩, ?_⟩, frozen_of_row _ _ _ _ _ hh, hb, ?_⟩
    · rw [heap_setCell_other _ _ _ _ (fun e => hgD e.symm)]; exact h1
    · simp [encH_length]
    · exact heap_setCell_same _ _ _ _ _ _ hh
    · unfold M.setH
      rw [encH_set H k n hk, Array.toList_setIfInBounds, List.length_set, List.take_set, hx]
    · intro y hy
      rcases List.mem_or_eq_of_mem_set hy with hy | rfl
      · exact hsm y hy
      · exact hsm (H.getD k M.hd0) (by simp [List.getD, hk])
    · rw [World.ownsRow.cellAt h40 (k * 2 + 1) (by omega), encH_at H k hk]
theorem OwnCo.lower {w : World} {base base' : Nat} {p : Value × Value} {c : M.Com} (h : OwnCo w base p c) (hb : base' ≤ base) : OwnCo w base' p c := ⟨ownsRow_lower h.1 hb, ownsRow_lower h.2.1 hb, h.2.2⟩
/-- .. to which a commit is appended. -/
theorem boxed_grown {w w' : World} {B Bx D : Nat} {x x' y : Value} {C : List M.Com} {c : M.Com} {q : Value × Value} {H : List M.Hd} {vals : List (Value × Value)} (hB : B ≤ Bx) (hBw : Bx ≤ w.heap.size) (blk : w.heap[D]? = some (.cells #[x, y] 25 (0, 0))) (hH : OwnH w Bx y H) (tmp : Obj) (hl : vals.length = C.length) (h1 : w.ownsRow Bx 51 2 x C.length (encP vals)) (h2 : ∀ i, i < C.length → OwnCo w Bx (vals.getD i vp0) (C.getD i ([], [])))
    (hq : OwnCo w B q c) (h3 : w'.ownsRow Bx 51 2 x' (C.length + 1) (encP vals ++ [q.1, q.2])) (hg : (w.alloc tmp).grownBy w' x.ownBlock) :
    OwnK (w'.setCell ⟨D, 0, none⟩ x') B x' (C ++ [c]) ∧ OwnH (w'.setCell ⟨D, 0, none⟩ x') B y H ∧ (w'.setCell ⟨D, 0, none⟩ x').heap[D]? = some (.cells #[x', y] 25 (0, 0)) ∧ w'.heap[D]? = some (.cells #[x, y] 25 (0, 0)) ∧ Below Bx w w' := by
  have hlt := (Array.getElem?_eq_some_iff.1 blk).1
  have typ : ∀ r, x.ownBlock = some r → ∃ cur, (w.alloc tmp).heap[r]? = some (.cells cur 51 (0, 0)) := by
    intro r e
    rcases (h1.alloc tmp).2 with ⟨rfl, _⟩ | ⟨g, cap, cur', rfl, _, hgb, _⟩
    · simp [Value.ownBlock] at e
    · obtain rfl : g = r := by simpa [Value.ownBlock] using e
      exact ⟨_, hgb⟩
  have other : ∀ e, e ≠ 51 → ∀ r, x.ownBlock = some r → ∀ cur, (w.alloc tmp).heap[r]? ≠ some (.cells cur e (0, 0)) := by
    intro e he r hr cur hc
    obtain ⟨cur', hcur⟩ := typ r hr
    rw [hcur] at hc
    simp at hc
    exact he hc.2.symm
  have hDa : (w.alloc tmp).heap[D]? = some (.cells #[x, y] 25 (0, 0)) := by rw [Below.heap_alloc _ _ _ hlt]; exact blk
  have hne : x.ownBlock ≠ some D := fun e => other _ (by decide) D e _ hDa
  have hbk : w'.heap[D]? = some (.cells #[x, y] 25 (0, 0)) := by
    rw [hg.block D (by simp; omega) (fun e => hne e.symm)]; exact hDa
  have b1 : Below Bx w w' := ((Below.refl _ _).alloc hBw tmp).grown hg (by simp; omega) (fun k e => (World.ownsRow.lt h1 k e).1)
  have hba : Below w.heap.size w (w.alloc tmp) := (Below.refl _ _).alloc (Nat.le_refl _) _
  have K' : OwnK w' B x' (C ++ [c]) := OwnK.append hl (ownsRow_lower (h1.alloc tmp) hB) (fun i hi => ((h2 i hi).lower hB).later hba) (hq.later hba) (ownsRow_lower h3 hB) hg
  have g2 := grownBy_set w' ⟨D, 0, none⟩ x'
  refine ⟨K'.elsewhere g2 hbk (by decide) (by decide) (by decide), (OwnH.elsewhere ⟨ownsRow_elsewhere (hH.later hba).1 hg (other _ (by decide)), hH.2⟩ g2 hbk (by decide)).lower hB, ?_, hbk, b1⟩
  rw [heap_setCell_same _ _ _ _ _ _ hbk]; rfl

set_option maxRecDepth 100000 in
set_option maxHeartbeats 8000000 in
theorem grown_any (a : Option Addr) (n cap : Nat) (C : List M.Com) (a2 : Option Addr) (n2 cap2 : Nat) (H : List M.Hd) (k : Nat) (ra pa : Option Addr) (rn rc pn pc : Nat) (c : M.Com) (B : Nat) (w : World) (hV : RepoV w a n cap C a2 n2 cap2 H) (hz : M.rchk C H = 0) (hk : k < H.length) (hB : B ≤ w.heap.size) (hq : OwnCo w B (.slice ra rn rc, .slice pa pn pc) c) :
    Calls Tryz.prog 100 #[.agg #[.slice a n cap, .slice a2 n2 cap2], .int .i64 (k : Int), .slice ra rn rc, .slice pa pn pc] w fun e w' => ∃ v, e = .returned v ∧ RepoOwn w' B v (C ++ [c]) (M.setH H k C.length) ∧ Below w.heap.size w w' := by
  obtain ⟨i1, hi1, hy0, hy1, hy2⟩ := info_parts infoCommit
  obtain ⟨p, hp⟩ : ∃ p, p = w.heap.size := ⟨_, rfl⟩
  obtain ⟨W, hW⟩ : ∃ W, W = (w.alloc (.cells #[.slice a n cap, .slice a2 n2 cap2] 25)).alloc (.cells #[.slice none 0 0, .slice none 0 0] 25) := ⟨_, rfl⟩
  have hb : Below w.heap.size w W := by rw [hW]; exact ((Below.refl _ _).alloc (Nat.le_refl _) _).alloc (by simp) _
  have hsz : W.heap.size = p + 2 := by rw [hW, hp]; simp
  have q2 : W.heap[p + 1]? = some (.cells #[.slice none 0 0, .slice none 0 0] 25 (0, 0)) := by
    rw [hW, show p + 1 = (w.alloc (.cells #[.slice a n cap, .slice a2 n2 cap2] 25)).heap.size by rw [hp]; simp]
    exact heap_alloc_new _ _
  have KO : Hid (Calls Tryz.prog 103 #[.agg #[.slice a n cap, .slice a2 n2 cap2]] W fun e w' => ∃ v, e = .returned v ∧ RepoOwn w' W.heap.size v C H ∧ Below W.heap.size W w') := ownRepo_any a n cap C a2 n2 cap2 H W (hV.later hb) hz
  have HQ : Hid (OwnCo W B (.slice ra rn rc, .slice pa pn pc) c) := hq.later hb
  have HQ2 : Hid (W.heap[p + 1]? = some (.cells #[.slice none 0 0, .slice none 0 0] 25 (0, 0))) := q2
  have hC14 : C.length ≤ 14 := (M.dchk_zero (M.rchk_zero hz).1).1
  have HW : Hid (W = (w.alloc (.cells #[.slice a n cap, .slice a2 n2 cap2] 25)).alloc (.cells #[.slice none 0 0, .slice none 0 0] 25)) := hW
  have HP : Aside (p = w.heap.size) := hp
  have HSz : Aside (W.heap.size = p + 2) := hsz
  clear hW hp hV hz hq q2 hsz
  go_enter Tryz.func100, Tryz.ntmps100
  go_wp2_with fail
  rw [← HW.out, ← HP.out]
  refine KO.out.mono ?_
  rintro e w1 ⟨v, rfl, ⟨x, y, rfl, ok, oh⟩, b1⟩
  obtain ⟨xa, xc, rfl, _⟩ := ok.cm
  obtain ⟨g, yc, rfl⟩ : ∃ g yc, y = .slice (some ⟨g, 0, none⟩) H.length yc := by
    rcases oh.1.2 with ⟨e, e2⟩ | ⟨g, cap, _, e, _⟩
    · omega
    · exact ⟨g, cap, e⟩
  obtain ⟨D, hD⟩ : ∃ D, D = w1.heap.size := ⟨_, rfl⟩
  obtain ⟨m, hm⟩ : ∃ m, m = C.length := ⟨_, rfl⟩
  obtain ⟨mh, hmh⟩ : ∃ mh, mh = H.length := ⟨_, rfl⟩
  obtain ⟨W2, hW2⟩ : ∃ W2, W2 = w1.alloc (.cells #[.slice xa m xc, .slice (some ⟨g, 0, none⟩) mh yc] 25) := ⟨_, rfl⟩
  have bW2 : Below w1.heap.size w1 W2 := by rw [hW2]; exact (Below.refl _ _).alloc (Nat.le_refl _) _
  have blk : W2.heap[D]? = some (.cells #[.slice xa m xc, .slice (some ⟨g, 0, none⟩) mh yc] 25 (0, 0)) := by rw [hW2, hD]; exact heap_alloc_new _ _
  have b2 : Below W.heap.size W W2 := b1.trans (bW2.mono b1.size)
  obtain ⟨vals, hl, hrow, hel⟩ := ok.later bW2
  rw [← hm] at hrow
  have oh2 := oh.later bW2
  have k0 : W2.cell? ⟨D, 0, none⟩ = some (.slice xa m xc) := by rw [cell_of_row _ _ _ _ _ _ blk]; rfl
  have hDs : D < W2.heap.size := (Array.getElem?_eq_some_iff.1 blk).1
  have HRA : Hid ((W2.alloc (.cells #[.slice ra rn rc, .slice pa pn pc] 51)).ownsRow W.heap.size 51 2 (.slice xa m xc) m (encP vals)) := hrow.alloc _
  have hWD : W.heap.size ≤ D := by rw [hD]; exact b1.size
  have hBW : B ≤ W.heap.size := Nat.le_trans hB hb.size
  have HPut : Hid (∀ x' w', w'.ownsRow W.heap.size 51 2 x' (m + 1) (encP vals ++ [.slice ra rn rc, .slice pa pn pc]) → (W2.alloc (.cells #[.slice ra rn rc, .slice pa pn pc] 51)).grownBy w' (Value.slice xa m xc).ownBlock → OwnK (w'.setCell ⟨D, 0, none⟩ x') B x' (C ++ [c]) ∧ OwnH (w'.setCell ⟨D, 0, none⟩ x') B (.slice (some ⟨g, 0, none⟩) mh yc) H ∧ (w'.setCell ⟨D, 0, none⟩ x').heap[D]? = some (.cells #[x', .slice (some ⟨g, 0, none⟩) mh yc] 25 (0, 0)) ∧ w'.heap[D]? = some (.cells #[.slice xa m xc, .slice (some ⟨g, 0, none⟩) mh yc] 25 (0, 0)) ∧ Below W.heap.size W2 w') := fun x' w' h3 hg =>
    boxed_grown (q := (.slice ra rn rc, .slice pa pn pc)) hBW b2.size blk (by rw [hmh]; exact oh2) _ hl (by rw [← hm]; exact hrow) hel (HQ.out.later b2) (by rw [← hm]; exact h3) hg
  rw [← hm, ← hmh]
  have hgW : W.heap.size ≤ g := (World.ownsRow.lt oh.1 g rfl).1
  have hkm : k < mh := by rw [hmh]; exact hk
  have HM : Aside (m = C.length) := hm
  have HMh : Aside (mh = H.length) := hmh
  have HW2 : Hid (W2 = w1.alloc (.cells #[.slice xa m xc, .slice (some ⟨g, 0, none⟩) mh yc] 25)) := hW2
  have HD : Aside (D = w1.heap.size) := hD
  have hm14 : m ≤ 14 := by rw [hm]; exact hC14
  have HCN : Hid (∀ j u, [Value.slice ra rn rc, .slice pa pn pc][j]? = some u → (W2.alloc (.cells #[.slice ra rn rc, .slice pa pn pc] 51)).cell? ((⟨w1.heap.size + 1, 0, none⟩ : Addr).add j) = some u) := by
    unfold Hid
    rw [show w1.heap.size + 1 = W2.heap.size by rw [hW2]; simp]
    exact cell_pair_new _ _ _ _
  have HBs : Hid (W.heap.size ≤ (W2.alloc (.cells #[.slice ra rn rc, .slice pa pn pc] 51)).heap.size) := by have := b2.size; unfold Hid; simp; omega
  clear hW2 hD ok oh oh2 blk hl hrow hel hm hmh b1 bW2 KO
  go_wp2_with (at_builtin; refine wpList_append_own _ rfl _ _ 22 rfl W.heap.size 51 i1 (.agg #[.slice none 0 0, .slice none 0 0]) 2 48 Tryz.underlying22 hi1 hy0 hy1 hy2 rfl (by decide) _ m (encP vals) rfl (by rw [← HW2.out]; exact HRA.out) ⟨w1.heap.size + 1, 0, none⟩ 1 1 [.slice ra rn rc, .slice pa pn pc] rfl rfl (by rw [← HW2.out]; exact HCN.out) (by simp [Value.oneCell']) (by simp only [maxLen]; omega) (by omega) (by rw [← HW2.out]; exact HBs.out) ?_)
  rw [← HW2.out, ← HD.out]
  intro v' w3 h6 h7 _
  obtain ⟨g', cap', rfl⟩ := ownsRow_succ h6
  obtain ⟨P1, P2, P3, P4, P5⟩ := HPut.out _ w3 h6 h7
  have k3 : w3.cell? ⟨D, 0, none⟩ = some (.slice xa m xc) := by rw [cell_of_row _ _ _ _ _ _ P4]; rfl
  have f3 : w3.frozen? ⟨D, 0, none⟩ = false := frozen_of_row _ _ _ _ _ P4
  obtain ⟨W4, hW4⟩ : ∃ W4, W4 = w3.setCell ⟨D, 0, none⟩ (.slice (some ⟨g', 0, none⟩) (m + 1) cap') := ⟨_, rfl⟩
  rw [← hW4] at P1 P2 P3
  rw [HMh.out] at P2 P3
  obtain ⟨Q1, Q2, Q3, Q4, Q5, Q6⟩ := boxed_moved (k := k) ((m : Nat) : Int) P3 P1 P2 hk
  rw [← HMh.out] at Q1 Q3 P3
  obtain ⟨W5, hW5⟩ : ∃ W5, W5 = W4.setCell ⟨g, k * 2 + 1, none⟩ (.int .i64 (m : Int)) := ⟨_, rfl⟩
  rw [← hW5] at Q1 Q2 Q3
  have b4 : Below W.heap.size W W4 := by rw [hW4]; exact (b2.trans P5).setCell (p := ⟨D, 0, none⟩) hWD _
  have b5 : Below W.heap.size W W5 := by rw [hW5]; exact b4.setCell (p := ⟨g, k * 2 + 1, none⟩) hgW _
  have d0 : W4.cell? ⟨D, 0, none⟩ = some (.slice (some ⟨g', 0, none⟩) (m + 1) cap') := by rw [cell_of_row _ _ _ _ _ _ P3]; rfl
  have d1 : W4.cell? ⟨D, 1, none⟩ = some (.slice (some ⟨g, 0, none⟩) mh yc) := by rw [cell_of_row _ _ _ _ _ _ P3]; rfl
  have e0 : W5.cell? ⟨D, 0, none⟩ = some (.slice (some ⟨g', 0, none⟩) (m + 1) cap') := by rw [cell_of_row _ _ _ _ _ _ Q1]; rfl
  have e1 : W5.cell? ⟨D, 1, none⟩ = some (.slice (some ⟨g, 0, none⟩) mh yc) := by rw [cell_of_row _ _ _ _ _ _ Q1]; rfl
  have r2 : W5.heap[p + 1]? = some (.cells #[.slice none 0 0, .slice none 0 0] 25 (0, 0)) := (b5.block (p + 1) (by have := HSz.out; omega)).trans HQ2.out
  have hbw : Below w.heap.size w W5 := hb.trans (b5.mono hb.size)
  have HRO : Aside (RepoOwn ((W5.setCell ⟨p + 1, 0, none⟩ (.slice (some ⟨g', 0, none⟩) (m + 1) cap')).setCell ⟨p + 1, 1, none⟩ (.slice (some ⟨g, 0, none⟩) mh yc)) B (.agg #[.slice (some ⟨g', 0, none⟩) (m + 1) cap', .slice (some ⟨g, 0, none⟩) mh yc]) (C ++ [c]) (M.setH H k C.length)) := by rw [← HM.out]; exact repoOwn_set r2 Q2 Q3
  obtain ⟨g1, g2, g3⟩ := res_set r2 (.slice (some ⟨g', 0, none⟩) (m + 1) cap') (.slice (some ⟨g, 0, none⟩) mh yc)
  obtain ⟨X, hX⟩ : ∃ X, X = (W5.setCell ⟨p + 1, 0, none⟩ (.slice (some ⟨g', 0, none⟩) (m + 1) cap')).setCell ⟨p + 1, 1, none⟩ (.slice (some ⟨g, 0, none⟩) mh yc) := ⟨_, rfl⟩
  rw [← hX] at g1 HRO
  have bX : Below w.heap.size w X := by rw [hX]; exact (hbw.setCell (p := ⟨p + 1, 0, none⟩) (by show _ ≤ p + 1; have := HP.out; omega) _).setCell (p := ⟨p + 1, 1, none⟩) (by show _ ≤ p + 1; have := HP.out; omega) _
  have HX9 : Hid (X = (W5.setCell ⟨p + 1, 0, none⟩ (.slice (some ⟨g', 0, none⟩) (m + 1) cap')).setCell ⟨p + 1, 1, none⟩ (.slice (some ⟨g, 0, none⟩) mh yc)) := hX
  have HW4 : Hid (W4 = w3.setCell ⟨D, 0, none⟩ (.slice (some ⟨g', 0, none⟩) (m + 1) cap')) := hW4
  have HW5 : Hid (W5 = W4.setCell ⟨g, k * 2 + 1, none⟩ (.int .i64 (m : Int))) := hW5
  have HX0 : Aside (X.cell? ⟨p + 1, 0, none⟩ = some (.slice (some ⟨g', 0, none⟩) (m + 1) cap')) := by unfold Aside; rw [cell_of_row _ _ _ _ _ _ g1]; rfl
  have HX1 : Aside (X.cell? ⟨p + 1, 1, none⟩ = some (.slice (some ⟨g, 0, none⟩) mh yc)) := by unfold Aside; rw [cell_of_row _ _ _ _ _ _ g1]; rfl
  have HQ4 : Hid (W4.frozen? ⟨g, k * 2 + 1, none⟩ = false) := Q4
  have HQ6 : Hid (W4.cell? ⟨g, k * 2 + 1, none⟩ = some (.int .i64 (H.getD k M.hd0).2)) := Q6
  have HE : Hid (W5.cell? ⟨D, 0, none⟩ = some (.slice (some ⟨g', 0, none⟩) (m + 1) cap') ∧ W5.cell? ⟨D, 1, none⟩ = some (.slice (some ⟨g, 0, none⟩) mh yc)) := ⟨e0, e1⟩
  have HR2 : Hid (W5.heap[p + 1]? = some (.cells #[.slice none 0 0, .slice none 0 0] 25 (0, 0))) := r2
  have HDD : Hid (W4.cell? ⟨D, 0, none⟩ = some (.slice (some ⟨g', 0, none⟩) (m + 1) cap') ∧ W4.cell? ⟨D, 1, none⟩ = some (.slice (some ⟨g, 0, none⟩) mh yc)) := ⟨d0, d1⟩
  have hmw : IntKind.i64.wrap (((m + 1 : Nat) : Int) - 1) = (m : Int) := by rw [IntKind.wrap_i64]; omega
  have hki : (k : Int) < (mh : Int) := by omega
  have d0' := HDD.out.1
  have d1' := HDD.out.2
  have q4' := HQ4.out
  have q6' := HQ6.out
  rw [hW4] at d0' d1' q4' q6'
  have e0' := HE.out.1
  have e1' := HE.out.2
  rw [hW5, hW4] at e0' e1'
  have x0' : W5.cell? ⟨p + 1, 0, none⟩ = some (.slice none 0 0) := by rw [cell_of_row _ _ _ _ _ _ r2]; rfl
  have x1' : W5.cell? ⟨p + 1, 1, none⟩ = some (.slice none 0 0) := by rw [cell_of_row _ _ _ _ _ _ r2]; rfl
  have f0' : W5.frozen? ⟨p + 1, 0, none⟩ = false := frozen_of_row _ _ _ _ _ r2
  have f1' : W5.frozen? ⟨p + 1, 1, none⟩ = false := frozen_of_row _ _ _ _ _ r2
  rw [hW5, hW4] at x0' x1' f0' f1'
  clear P1 P2 P3 P4 P5 Q1 Q2 Q3 Q4 Q5 Q6 h6 h7 hW4 hW5 hX g1 g2 g3 d0 d1 e0 e1 r2 HPut HRA HCN HBs k0 b2 b4 b5
  go_wp2_with fail
  rw [← HW4.out, ← HW5.out, ← HX9.out]
  have y0 := HX0.out
  have y1 := HX1.out
  refine bodyPost_ret (v := .agg #[.slice (some ⟨g', 0, none⟩) (m + 1) cap', .slice (some ⟨g, 0, none⟩) mh yc]) (by simp [results, Tryz.results100, go_sem, y0, y1]) rfl ?_
  exact ⟨_, rfl, HRO.out, bX⟩
end Go.Proofs.YtcgpgflnihjpiafGreat

/- From an argument's reading to the rows that it holds. -/
namespace Go.Proofs.YtcgpgflnihjpiafGreat
open Go.ChangeShapes Go.WideShapes Go.ChangeAt Go.RowKit Go.Deep

theorem ownTry : ownKnob Tryz.prog.godebug = none := by kernel_rfl
theorem laidTry : laidOutB Tryz.prog = true := by kernel_rfl

theorem open_rows {H : Type} {enc : TypeId × Value → H} {w : World} {base : Nat} {spare : Nat → Bool} {held : Bool} {fuel : Nat} {a : Option Addr} {len cap : Nat} {x : DataW H × List MemPlace}
    (h : DataW.trod enc Tryz.prog w base spare held fuel 49 [.slice a len cap] = some x) : ∃ l, Rd w a len l ∧ len ≤ cap ∧ cap ≤ maxLen ∧ (a = none → len = 0 ∧ cap = 0) := by
  rcases open_slice_pairs Tryz.underlying49 Tryz.underlying98 (by kernel_rfl) rfl rfl (by kernel_rfl) (by kernel_rfl) h with ⟨hcs, _⟩ | ⟨ad, len', cap', m, n, V0, V1, D0, D1, P0, P1, hcs, _, hl, hm, hmm, _, hc⟩
  · simp at hcs
    obtain ⟨rfl, rfl, rfl⟩ := hcs
    exact ⟨[], ⟨rfl, Or.inl rfl⟩, Nat.le_refl _, by simp [maxLen], fun _ => ⟨rfl, rfl⟩⟩
  · simp at hcs
    obtain ⟨rfl, rfl, rfl⟩ := hcs
    have hlm : len ≤ m := by rw [hmm]; split <;> omega
    have each : ∀ i, i < len → ∃ q : Int × Int, w.cell? (ad.add (i * 2)) = some (.int .i64 q.1) ∧ w.cell? (ad.add (i * 2 + 1)) = some (.int .i64 q.2) := by
      intro i hi
      obtain ⟨c0, c1, t0, t1⟩ := hc i (by omega)
      obtain ⟨x0, e0, _, _⟩ := DataW.trod_int (k := .i64) Tryz.underlying3 t0
      obtain ⟨x1, e1, _, _⟩ := DataW.trod_int (k := .i64) Tryz.underlying3 t1
      simp at e0 e1
      rw [e0] at c0
      rw [e1] at c1
      exact ⟨(x0, x1), c0, c1⟩
    obtain ⟨q, hq⟩ := choose_lt each
    refine ⟨(List.range len).map q, ⟨by simp, ?_⟩, hl, hm, fun h => by simp at h⟩
    by_cases h0 : len = 0
    · exact Or.inl h0
    · obtain ⟨b, off, spot⟩ := ad
      have hs : spot = none := by
        have h1 := (hq 0 (by omega)).1
        simpa [Addr.add] using World.cell?_spot h1
      subst hs
      refine Or.inr ⟨b, off, rfl, World.block_lt_of_cell? w _ (hq 0 (by omega)).1, fun i hi => ?_⟩
      have h1 := hq i hi
      rw [Addr.add_lit, Addr.add_lit, ← Nat.add_assoc] at h1
      have e : ((List.range len).map q).getD i (0, 0) = q i := by simp [List.getD, hi]
      rw [e]
      exact h1
end Go.Proofs.YtcgpgflnihjpiafGreat

/- From an argument's reading to the commits that it holds. -/
namespace Go.Proofs.YtcgpgflnihjpiafGreat
open Go.ChangeShapes Go.WideShapes Go.ChangeAt Go.RowKit Go.Deep

section
variable {H : Type} {enc : TypeId × Value → H} {w : World} {base : Nat} {spare : Nat → Bool} {held : Bool}

theorem open_rowsC {fuel : Nat} {cs : List Value} {x : DataW H × List MemPlace} (h : DataW.trod enc Tryz.prog w base spare held fuel 49 cs = some x) :
    ∃ a len cap l, cs = [.slice a len cap] ∧ Rd w a len l ∧ len ≤ 9223372036854775807 := by
  rcases open_slice_pairs Tryz.underlying49 Tryz.underlying98 (by kernel_rfl) rfl rfl (by kernel_rfl) (by kernel_rfl) h with ⟨rfl, rfl⟩ | ⟨ad, len, cap, m, n, V0, V1, D0, D1, P0, P1, rfl, _, hl, hm, hmm, rfl, hc⟩
  · obtain ⟨l, r1, r2⟩ := open_rows h
    exact ⟨none, 0, 0, l, rfl, r1, by omega⟩
  · obtain ⟨l, r1, r2⟩ := open_rows h
    exact ⟨some ad, len, cap, l, rfl, r1, by unfold maxLen at hm; omega⟩

theorem open_intsC {fuel : Nat} {cs : List Value} {x : DataW H × List MemPlace} (h : DataW.trod enc Tryz.prog w base spare held fuel 38 cs = some x) :
    ∃ a len cap l, cs = [.slice a len cap] ∧ Ri w a len l ∧ len ≤ 9223372036854775807 := by
  rcases open_slice1 Tryz.underlying38 (by kernel_rfl) h with ⟨rfl, rfl⟩ | ⟨ad, len, cap, m, n, V, D, Pl, rfl, _, hl, hm, hmm, rfl, hc⟩
  · exact ⟨none, 0, 0, [], rfl, ⟨rfl, Or.inl rfl⟩, by omega⟩
  · have hlm : len ≤ m := by rw [hmm]; split <;> omega
    have each : ∀ i, i < len → ∃ q : Int, w.cell? (ad.add i) = some (.int .i64 q) := by
      intro i hi
      obtain ⟨c0, t0⟩ := hc i (by omega)
      obtain ⟨x0, e0, _, _⟩ := DataW.trod_int (k := .i64) Tryz.underlying3 t0
      simp at e0
      rw [e0] at c0
      exact ⟨x0, c0⟩
    obtain ⟨q, hq⟩ := choose_lt each
    refine ⟨some ad, len, cap, (List.range len).map q, rfl, ⟨by simp, ?_⟩, by unfold maxLen at hm; omega⟩
    by_cases h0 : len = 0
    · exact Or.inl h0
    · obtain ⟨b, off, spot⟩ := ad
      have hs : spot = none := by
        have h1 := hq 0 (by omega)
        simpa [Addr.add] using World.cell?_spot h1
      subst hs
      refine Or.inr ⟨b, off, rfl, World.block_lt_of_cell? w _ (hq 0 (by omega)), fun i hi => ?_⟩
      have h1 := hq i hi
      rw [Addr.add_lit] at h1
      have e : ((List.range len).map q).getD i 0 = q i := by simp [List.getD, hi]
      rw [e]
      exact h1

theorem open_coms {fuel : Nat} {a : Option Addr} {len cap : Nat} {x : DataW H × List MemPlace} (h : DataW.trod enc Tryz.prog w base spare held fuel 22 [.slice a len cap] = some x) :
    ∃ L, Cm w a len L ∧ len ≤ cap ∧ cap ≤ maxLen := by
  rcases open_slice_pairs Tryz.underlying22 Tryz.underlying51 (by kernel_rfl) rfl rfl (by kernel_rfl) (by kernel_rfl) h with ⟨hcs, _⟩ | ⟨ad, len', cap', m, n, V0, V1, D0, D1, P0, P1, hcs, _, hl, hm, hmm, _, hc⟩
  · simp at hcs
    obtain ⟨rfl, rfl, rfl⟩ := hcs
    exact ⟨[], ⟨rfl, Or.inl rfl⟩, Nat.le_refl _, by simp [maxLen]⟩
  · simp at hcs
    obtain ⟨rfl, rfl, rfl⟩ := hcs
    have hlm : len ≤ m := by rw [hmm]; split <;> omega
    have each : ∀ i, i < len → ∃ q : ((Option Addr × Nat × Nat) × (Option Addr × Nat × Nat)) × M.Com, w.cell? (ad.add (i * 2)) = some (.slice q.1.1.1 q.1.1.2.1 q.1.1.2.2) ∧ w.cell? (ad.add (i * 2 + 1)) = some (.slice q.1.2.1 q.1.2.2.1 q.1.2.2.2) ∧ Rd w q.1.1.1 q.1.1.2.1 q.2.1 ∧ Ri w q.1.2.1 q.1.2.2.1 q.2.2 ∧ q.1.1.2.1 ≤ 9223372036854775807 ∧ q.1.2.2.1 ≤ 9223372036854775807 := by
      intro i hi
      obtain ⟨c0, c1, t0, t1⟩ := hc i (by omega)
      obtain ⟨a1, n1, k1, l1, e0, r1, m1⟩ := open_rowsC t0
      obtain ⟨a2, n2, k2, l2, e1, r2, m2⟩ := open_intsC t1
      simp at e0 e1
      rw [e0] at c0
      rw [e1] at c1
      exact ⟨(((a1, n1, k1), (a2, n2, k2)), (l1, l2)), c0, c1, r1, r2, m1, m2⟩
    obtain ⟨q, hq⟩ := choose_lt each
    refine ⟨(List.range len).map fun i => (q i).2, ⟨by simp, ?_⟩, hl, hm⟩
    by_cases h0 : len = 0
    · exact Or.inl h0
    · obtain ⟨b, off, spot⟩ := ad
      have hs : spot = none := by
        have h1 := (hq 0 (by omega)).1
        simpa [Addr.add] using World.cell?_spot h1
      subst hs
      refine Or.inr ⟨b, off, rfl, World.block_lt_of_cell? w _ (hq 0 (by omega)).1, fun i hi => ?_⟩
      have h1 := hq i hi
      rw [Addr.add_lit, Addr.add_lit, ← Nat.add_assoc] at h1
      have e : ((List.range len).map fun i => (q i).2).getD i ([], []) = (q i).2 := by simp [List.getD, hi]
      rw [e]
      exact ⟨_, _, _, _, _, _, h1⟩
end
end Go.Proofs.YtcgpgflnihjpiafGreat

/- From an argument's reading to the repo that it holds. -/
namespace Go.Proofs.YtcgpgflnihjpiafGreat
open Go.ChangeShapes Go.WideShapes Go.ChangeAt Go.RowKit Go.Deep

section
variable {H : Type} {enc : TypeId × Value → H} {w : World} {base : Nat} {spare : Nat → Bool} {held : Bool}

theorem open_comsC {fuel : Nat} {v : Value} {x : DataW H × List MemPlace} (h : DataW.trod enc Tryz.prog w base spare held fuel 22 [v] = some x) :
    ∃ a len cap L, v = .slice a len cap ∧ Cm w a len L ∧ len ≤ cap ∧ cap ≤ maxLen := by
  rcases open_slice_pairs Tryz.underlying22 Tryz.underlying51 (by kernel_rfl) rfl rfl (by kernel_rfl) (by kernel_rfl) h with ⟨hcs, _⟩ | ⟨ad, len', cap', m, n, V0, V1, D0, D1, P0, P1, hcs, _⟩
  · simp at hcs
    subst hcs
    obtain ⟨L, r⟩ := open_coms h
    exact ⟨none, 0, 0, L, rfl, r⟩
  · simp at hcs
    subst hcs
    obtain ⟨L, r⟩ := open_coms h
    exact ⟨some ad, len', cap', L, rfl, r⟩

theorem open_headsC {fuel : Nat} {v : Value} {x : DataW H × List MemPlace} (h : DataW.trod enc Tryz.prog w base spare held fuel 23 [v] = some x) :
    ∃ a len cap L, v = .slice a len cap ∧ Hs w a len L ∧ len ≤ cap ∧ cap ≤ maxLen ∧ (a = none → len = 0 ∧ cap = 0) := by
  rcases open_slice_pairs Tryz.underlying23 Tryz.underlying71 (by kernel_rfl) rfl rfl (by kernel_rfl) (by kernel_rfl) h with ⟨hcs, _⟩ | ⟨ad, len, cap, m, n, V0, V1, D0, D1, P0, P1, hcs, _, hl, hm, hmm, _, hc⟩
  · simp at hcs
    subst hcs
    exact ⟨none, 0, 0, [], rfl, ⟨rfl, Or.inl rfl⟩, Nat.le_refl _, by simp [maxLen], fun _ => ⟨rfl, rfl⟩⟩
  · simp at hcs
    subst hcs
    have hlm : len ≤ m := by rw [hmm]; split <;> omega
    have each : ∀ i, i < len → ∃ q : M.Hd, w.cell? (ad.add (i * 2)) = some (.string q.1) ∧ w.cell? (ad.add (i * 2 + 1)) = some (.int .i64 q.2) ∧ q.1.size ≤ 9223372036854775807 := by
      intro i hi
      obtain ⟨c0, c1, t0, t1⟩ := hc i (by omega)
      obtain ⟨s0, e0, _, z0⟩ := DataW.trod_string Tryz.underlying9 t0
      obtain ⟨x1, e1, _, _⟩ := DataW.trod_int (k := .i64) Tryz.underlying3 t1
      simp at e0 e1
      rw [e0] at c0
      rw [e1] at c1
      exact ⟨(s0, x1), c0, c1, by unfold maxLen at z0; exact z0⟩
    obtain ⟨q, hq⟩ := choose_lt each
    refine ⟨some ad, len, cap, (List.range len).map q, rfl, ⟨by simp, ?_⟩, hl, hm, fun h => by simp at h⟩
    by_cases h0 : len = 0
    · exact Or.inl h0
    · obtain ⟨b, off, spot⟩ := ad
      have hs : spot = none := by
        have h1 := (hq 0 (by omega)).1
        simpa [Addr.add] using World.cell?_spot h1
      subst hs
      refine Or.inr ⟨b, off, rfl, World.block_lt_of_cell? w _ (hq 0 (by omega)).1, fun i hi => ?_⟩
      have h1 := hq i hi
      rw [Addr.add_lit, Addr.add_lit, ← Nat.add_assoc] at h1
      have e : ((List.range len).map q).getD i M.hd0 = q i := by simp [List.getD, hi]
      rw [e]
      exact h1

set_option maxRecDepth 100000 in
theorem open_repo {r : Reach} {b0 : Nat} {v : Value} {d : DataW H} {p : List MemPlace} (hv : Value.okWide Tryz.prog w r b0 25 v) (h : DataW.Trod enc Tryz.prog w base spare held 25 v d p) :
    ∃ a n cap a2 n2 cap2 C L, v = .agg #[.slice a n cap, .slice a2 n2 cap2] ∧ Cm w a n C ∧ n ≤ 9223372036854775807 ∧ Hs w a2 n2 L ∧ n2 ≤ 9223372036854775807 := by
  obtain ⟨v0, v1, y0, y1, m, rfl, _, _, h0, h1⟩ := Joins.open_agg2 Tryz.underlying25 (by kernel_rfl) (by kernel_rfl) hv h
  obtain ⟨a, n, cap, C, rfl, c1, c2, c3⟩ := open_comsC h0
  obtain ⟨a2, n2, cap2, L, rfl, l1, l2, l3, _⟩ := open_headsC h1
  exact ⟨a, n, cap, a2, n2, cap2, C, L, rfl, c1, by unfold maxLen at c3; omega, l1, by unfold maxLen at l3; omega⟩
end
end Go.Proofs.YtcgpgflnihjpiafGreat

/- From an argument's reading to the repo that it holds, its nil slices too. -/
namespace Go.Proofs.YtcgpgflnihjpiafGreat
open Go.ChangeShapes Go.WideShapes Go.ChangeAt Go.RowKit Go.Deep

section
variable {H : Type} {enc : TypeId × Value → H} {w : World} {base : Nat} {spare : Nat → Bool} {held : Bool}

theorem open_rowsN {fuel : Nat} {cs : List Value} {x : DataW H × List MemPlace} (h : DataW.trod enc Tryz.prog w base spare held fuel 49 cs = some x) :
    ∃ a len cap, cs = [.slice a len cap] ∧ (a = none → len = 0 ∧ cap = 0) := by
  rcases open_slice_pairs Tryz.underlying49 Tryz.underlying98 (by kernel_rfl) rfl rfl (by kernel_rfl) (by kernel_rfl) h with ⟨rfl, rfl⟩ | ⟨ad, len, cap, m, n, V0, V1, D0, D1, P0, P1, rfl, _⟩
  · exact ⟨none, 0, 0, rfl, fun _ => ⟨rfl, rfl⟩⟩
  · exact ⟨some ad, len, cap, rfl, fun h => by simp at h⟩
theorem open_intsN {fuel : Nat} {cs : List Value} {x : DataW H × List MemPlace} (h : DataW.trod enc Tryz.prog w base spare held fuel 38 cs = some x) :
    ∃ a len cap, cs = [.slice a len cap] ∧ (a = none → len = 0 ∧ cap = 0) := by
  rcases open_slice1 Tryz.underlying38 (by kernel_rfl) h with ⟨rfl, rfl⟩ | ⟨ad, len, cap, m, n, V, D, Pl, rfl, _⟩
  · exact ⟨none, 0, 0, rfl, fun _ => ⟨rfl, rfl⟩⟩
  · exact ⟨some ad, len, cap, rfl, fun h => by simp at h⟩
theorem open_cn {fuel : Nat} {a : Option Addr} {len cap : Nat} {x : DataW H × List MemPlace} (h : DataW.trod enc Tryz.prog w base spare held fuel 22 [.slice a len cap] = some x) : Cn w a len := by
  rcases open_slice_pairs Tryz.underlying22 Tryz.underlying51 (by kernel_rfl) rfl rfl (by kernel_rfl) (by kernel_rfl) h with ⟨hcs, _⟩ | ⟨ad, len', cap', m, n, V0, V1, D0, D1, P0, P1, hcs, _, hl, hm, hmm, _, hc⟩
  · simp at hcs
    obtain ⟨rfl, rfl, rfl⟩ := hcs
    intro b off e
    simp at e
  · simp at hcs
    obtain ⟨rfl, rfl, rfl⟩ := hcs
    have hlm : len ≤ m := by rw [hmm]; split <;> omega
    intro b off e i hi y k c hor hy
    obtain rfl : ad = ⟨b, off, none⟩ := by simpa using e
    obtain ⟨c0, c1, t0, t1⟩ := hc i (by omega)
    obtain ⟨a1, n1, k1, e0, z0⟩ := open_rowsN t0
    obtain ⟨a2, n2, k2, e1, z1⟩ := open_intsN t1
    simp at e0 e1
    rw [e0, Addr.add_lit] at c0
    rw [e1, Addr.add_lit, ← Nat.add_assoc] at c1
    rcases hor with hcc | hcc
    · rw [hcc] at c0
      simp at c0
      obtain ⟨rfl, rfl, rfl⟩ := c0
      exact z0 hy
    · rw [hcc] at c1
      simp at c1
      obtain ⟨rfl, rfl, rfl⟩ := c1
      exact z1 hy
set_option maxRecDepth 100000 in
theorem open_repoV {r : Reach} {b0 : Nat} {v : Value} {d : DataW H} {p : List MemPlace} (hv : Value.okWide Tryz.prog w r b0 25 v) (h : DataW.Trod enc Tryz.prog w base spare held 25 v d p) :
    ∃ a n cap a2 n2 cap2 C L, v = .agg #[.slice a n cap, .slice a2 n2 cap2] ∧ RepoV w a n cap C a2 n2 cap2 L ∧ n2 ≤ cap2 ∧ cap2 ≤ maxLen := by
  obtain ⟨v0, v1, y0, y1, m, rfl, _, _, h0, h1⟩ := Joins.open_agg2 Tryz.underlying25 (by kernel_rfl) (by kernel_rfl) hv h
  obtain ⟨a, n, cap, C, rfl, c1, c2, c3⟩ := open_comsC h0
  obtain ⟨a2, n2, cap2, L, rfl, l1, l2, l3, l4⟩ := open_headsC h1
  exact ⟨a, n, cap, a2, n2, cap2, C, L, rfl, ⟨c1, open_cn h0, by unfold maxLen at c3; omega, l1, by unfold maxLen at l3; omega, l4⟩, l2, l3⟩
end
end Go.Proofs.YtcgpgflnihjpiafGreat

/- From an argument's reading to the changes that it holds. -/
namespace Go.Proofs.YtcgpgflnihjpiafGreat
open Go.ChangeShapes Go.WideShapes Go.ChangeAt Go.RowKit Go.Deep

theorem list3 {α : Type} (l : List α) (h : l.length = 3) : ∃ a b c, l = [a, b, c] := by
  match l, h with
  | [a, b, c], _ => exact ⟨a, b, c, rfl⟩
set_option maxRecDepth 10000 in
theorem open_changes {H : Type} {enc : TypeId × Value → H} {w : World} {base : Nat} {spare : Nat → Bool} {held : Bool} {fuel : Nat} {a : Option Addr} {len cap : Nat} {x : DataW H × List MemPlace}
    (h : DataW.trod enc Tryz.prog w base spare held fuel 26 [.slice a len cap] = some x) : ∃ l, Rc w a len l ∧ len ≤ cap ∧ cap ≤ maxLen := by
  rcases open_slice Tryz.underlying26 h with ⟨hcs, _⟩ | ⟨ad, len', cap', m, n, D, Pl, hcs, hb, hl, hm, hmm, _, hx⟩
  · simp at hcs
    obtain ⟨rfl, rfl, rfl⟩ := hcs
    exact ⟨[], ⟨rfl, Or.inl rfl⟩, Nat.le_refl _, by simp [maxLen]⟩
  · simp at hcs
    obtain ⟨rfl, rfl, rfl⟩ := hcs
    have hlm : len ≤ m := by rw [hmm]; split <;> omega
    have ce : Tryz.prog.cellsOf 69 = 3 := by kernel_rfl
    have each : ∀ i, i < len → ∃ q : M.Chg, w.cell? (ad.add (i * 3)) = some (.int .i64 q.1) ∧ w.cell? (ad.add (i * 3 + 1)) = some (.int .i64 q.2.1) ∧ w.cell? (ad.add (i * 3 + 2)) = some (.int .i64 q.2.2) := by
      intro i hi
      obtain ⟨cs', h1, h2⟩ := hx i (by omega)
      rw [ce] at h1
      obtain ⟨_, hlen, hcell⟩ := World.cells?_some h1
      obtain ⟨xs, k, hk, hxy, _, hxl, hf⟩ := DataW.trod_struct Tryz.underlying69 h2
      obtain ⟨v0, v1, v2, rfl⟩ := list3 cs' hlen
      obtain ⟨z0, z1, z2, rfl⟩ := list3 xs hxl
      have g0 := hf 0 _ rfl
      have g1 := hf 1 _ rfl
      have g2 := hf 2 _ rfl
      have c1 : Tryz.prog.cellsOf 3 = 1 := by kernel_rfl
      simp [c1] at g0 g1 g2
      obtain ⟨y0, g0⟩ : ∃ y, DataW.trod enc Tryz.prog w base spare held k 3 [v0] = some y := ⟨_, g0⟩
      obtain ⟨y1, g1⟩ : ∃ y, DataW.trod enc Tryz.prog w base spare held k 3 [v1] = some y := ⟨_, g1⟩
      obtain ⟨y2, g2⟩ : ∃ y, DataW.trod enc Tryz.prog w base spare held k 3 [v2] = some y := ⟨_, g2⟩
      obtain ⟨x0, e0, _, _⟩ := DataW.trod_int (k := .i64) Tryz.underlying3 g0
      obtain ⟨x1, e1, _, _⟩ := DataW.trod_int (k := .i64) Tryz.underlying3 g1
      obtain ⟨x2, e2, _, _⟩ := DataW.trod_int (k := .i64) Tryz.underlying3 g2
      simp at e0 e1 e2
      have q0 := hcell 0 (by omega)
      have q1 := hcell 1 (by omega)
      have q2 := hcell 2 (by omega)
      rw [add_add] at q0 q1 q2
      subst e0 e1 e2
      exact ⟨(x0, x1, x2), by simpa using q0, by simpa using q1, by simpa using q2⟩
    obtain ⟨q, hq⟩ := choose_lt each
    refine ⟨(List.range len).map q, ⟨by simp, ?_⟩, hl, hm⟩
    by_cases h0 : len = 0
    · exact Or.inl h0
    · obtain ⟨b, off, spot⟩ := ad
      have hs : spot = none := by
        have h1 := (hq 0 (by omega)).1
        simpa [Addr.add] using World.cell?_spot h1
      subst hs
      refine Or.inr ⟨b, off, rfl, World.block_lt_of_cell? w _ (hq 0 (by omega)).1, fun i hi => ?_⟩
      have h1 := hq i hi
      rw [Addr.add_lit, Addr.add_lit, Addr.add_lit, ← Nat.add_assoc, ← Nat.add_assoc] at h1
      have e : ((List.range len).map q).getD i (0, 0, 0) = q i := by simp [List.getD, hi]
      rw [e]
      exact h1
end Go.Proofs.YtcgpgflnihjpiafGreat

/- For every repo, every name and every list of changes, the law WorkBack returns true and leaves its arguments as they were: what was put, put back, is as it was. No condition. -/
namespace Go.Proofs.YtcgpgflnihjpiafGreat
open Go.ChangeShapes Go.WideShapes Go.ChangeAt Go.RowKit

theorem begun_back {w V : World} (hb : Below w.heap.size w V) : Calls Tryz.prog 10 #[] V fun e w' => e = .returned (.bool true) ∧ Below w.heap.size w w' :=
  (wbegun_any V).mono fun _ _ h => ⟨h.1, hb.trans (h.2.mono hb.size)⟩

set_option maxRecDepth 100000 in
set_option maxHeartbeats 16000000 in
theorem workBack_walk (a : Option Addr) (n cap : Nat) (C : List M.Com) (a2 : Option Addr) (n2 cap2 : Nat) (H : List M.Hd) (s : ByteArray) (a3 : Option Addr) (m3 cap3 : Nat) (d : List M.Chg) (w : World) (hV : RepoV w a n cap C a2 n2 cap2 H) (hrc : Rc w a3 m3 d) (hm3 : m3 ≤ 9223372036854775807) :
    Calls Tryz.prog 5 #[.agg #[.slice a n cap, .slice a2 n2 cap2], .string s, .slice a3 m3 cap3] w fun e w' => e = .returned (.bool true) ∧ Below w.heap.size w w' := by
  obtain ⟨p, hp⟩ : ∃ p, p = w.heap.size := ⟨_, rfl⟩
  obtain ⟨W, hW⟩ : ∃ W, W = w.alloc (.cells #[.slice a n cap, .slice a2 n2 cap2] 25) := ⟨_, rfl⟩
  have hb : Below w.heap.size w W := by rw [hW]; exact (Below.refl _ _).alloc (Nat.le_refl _) _
  have HB : Hid (KBox W p a n cap C a2 n2 cap2 H) := by rw [hW, hp]; exact KBox.new hV
  have HW : Hid (W = w.alloc (.cells #[.slice a n cap, .slice a2 n2 cap2] 25)) := hW
  have HP : Aside (p = w.heap.size) := hp
  obtain ⟨E, hE⟩ : ∃ E, E = M.wpE C H s d := ⟨_, rfl⟩
  obtain ⟨z1, hz1⟩ : ∃ z, z = M.hchk C H s := ⟨_, rfl⟩
  obtain ⟨x, hx⟩ : ∃ x, x = M.hat C H s := ⟨_, rfl⟩
  have F1 : Hid (∀ V, Below W.heap.size W V → Calls Tryz.prog 13 #[.agg #[.slice a n cap, .slice a2 n2 cap2], .string s] V fun e w' => e = .returned (.tuple #[.int .i64 x, .int .i64 z1]) ∧ Below V.heap.size V w') := fun V hB => by rw [hx, hz1]; exact head_any a n cap C a2 n2 cap2 H s V (HB.out.v.later hB).cm hV.nm (HB.out.v.later hB).hs hV.hm
  have F2 : Hid (∀ V, Below W.heap.size W V → Calls Tryz.prog 16 #[.agg #[.slice a n cap, .slice a2 n2 cap2], .string s, .slice a3 m3 cap3] V fun e w' => ∃ v, e = .returned (.tuple #[v, .int .i64 E]) ∧ RepoOwn w' V.heap.size v (M.wpC C H s d) (M.wpH C H s d) ∧ Below V.heap.size V w') := fun V hB => by rw [hE]; exact wput_any a n cap C a2 n2 cap2 H s a3 m3 cap3 d V (HB.out.v.later hB) ((hrc.below hb (Nat.le_refl _)).below hB (Nat.le_refl _)) hm3
  have HE : Aside (E = M.wpE C H s d) := hE
  have HZ1 : Aside (z1 = M.hchk C H s) := hz1
  have HX : Aside (x = M.hat C H s) := hx
  have HRc : Hid (Rc W a3 m3 d) := hrc.below hb (Nat.le_refl _)
  have HNC : Aside (C.length = n) := hV.cm.1
  have b00 : Below W.heap.size W W := Below.refl _ _
  have c0 := HB.out.c0
  have c1 := HB.out.c1
  clear hW hp hV hE hz1 hx hrc
  go_enter Tryz.func5, Tryz.ntmps5
  go_wp2_with fail
  rw [← HW.out, ← HP.out]
  refine (F1.out _ b00).mono ?_
  rintro e u1 ⟨rfl, b0⟩
  clear c0 c1
  have c0 := (HB.out.later b0).c0
  have c1 := (HB.out.later b0).c1
  go_wp2_with fail
  refine (F2.out _ b0).mono ?_
  rintro e v1 ⟨r1, rfl, o1, bb1⟩
  obtain ⟨xa1, xc1, ya1, yc1, rfl, V1⟩ := o1.v
  obtain ⟨ln1, hln1⟩ : ∃ ln, ln = (M.wpC C H s d).length := ⟨_, rfl⟩
  obtain ⟨lh1, hlh1⟩ : ∃ lh, lh = (M.wpH C H s d).length := ⟨_, rfl⟩
  rw [← hln1, ← hlh1] at V1 ⊢
  obtain ⟨X1, hX1⟩ : ∃ X, X = v1.alloc (.cells #[.slice xa1 ln1 xc1, .slice ya1 lh1 yc1] 25) := ⟨_, rfl⟩
  obtain ⟨p1, hp1⟩ : ∃ p, p = v1.heap.size := ⟨_, rfl⟩
  have bX1 : Below v1.heap.size v1 X1 := by rw [hX1]; exact (Below.refl _ _).alloc (Nat.le_refl _) _
  have HB1 : Hid (KBox X1 p1 xa1 ln1 xc1 (M.wpC C H s d) ya1 lh1 yc1 (M.wpH C H s d)) := by rw [hX1, hp1]; exact KBox.new V1
  have HX1 : Hid (X1 = v1.alloc (.cells #[.slice xa1 ln1 xc1, .slice ya1 lh1 yc1] 25)) := hX1
  have HP1 : Aside (p1 = v1.heap.size) := hp1
  have q1 : Below u1.heap.size u1 X1 := dbelow2 bb1 bX1
  have b1 : Below W.heap.size W X1 := dbelow2 b0 q1
  have dq0 := (HB.out.later b1).c0
  have dq1 := (HB.out.later b1).c1
  rw [hX1] at dq0 dq1
  have HLn1 : Aside (ln1 = (M.wpC C H s d).length) := hln1
  have HLh1 : Aside (lh1 = (M.wpH C H s d).length) := hlh1
  clear hln1 hlh1
  clear c0 c1 o1 V1 hX1 hp1 bX1 bb1 q1
  have c0 := dq0
  have c1 := dq1
  clear dq0 dq1
  have HK : Hid (Below w.heap.size w X1) := hb.trans (b1.mono hb.size)
  clear c0 c1
  by_cases h1 : z1 = 0
  case neg =>
    have h1b : (z1 != 0) = true := by simp [h1]
    clear h1
    go_wp2_with fail
    rw [← HX1.out]
    refine (begun_back HK.out).mono ?_
    rintro e Y ⟨rfl, bY⟩
    go_wp2
    go_ret
    exact ⟨rfl, bY⟩
  subst h1
  by_cases h1 : E = 0
  case neg =>
    have h1b : (E != 0) = true := by simp [h1]
    clear h1
    go_wp2_with fail
    rw [← HX1.out]
    refine (begun_back HK.out).mono ?_
    rintro e Y ⟨rfl, bY⟩
    go_wp2
    go_ret
    exact ⟨rfl, bY⟩
  subst h1
  have hJ : M.wpE C H s d = 0 := HE.out.symm
  obtain ⟨hB0, hor⟩ := M.put_undone hJ
  have i1 := M.hat_in HZ1.out.symm
  rw [← HX.out] at i1
  obtain ⟨xn, rfl⟩ : ∃ xn : Nat, x = (xn : Int) := ⟨x.toNat, by omega⟩
  have hxn : xn < n := by have := HNC.out; omega
  have hXn : (M.hat C H s).toNat = xn := by rw [← HX.out]; rfl
  rw [hXn] at hor
  have KB : Hid (Calls Tryz.prog 17 #[.slice a3 m3 cap3] X1 fun e w' => ∃ a n cap, e = .returned (.tuple #[.slice a n cap, .int .i64 0]) ∧ Rc w' a n (M.backV d) ∧ n ≤ 9223372036854775807 ∧ Below X1.heap.size X1 w') := (back_any a3 m3 cap3 d X1 (HRc.out.below b1 (Nat.le_refl _)) hm3).mono fun e w' ⟨a, n, cap, h1, h2, h3, h4, h5⟩ => ⟨a, n, cap, by rw [h1, hB0], h2, by unfold maxLen at h4; omega, h5⟩
  have HOr : Hid (_ ∨ _) := hor
  clear hor hJ i1 hXn hB0
  go_wp2_with fail
  rw [← HX1.out, ← HP1.out]
  refine KB.out.mono ?_
  rintro e A1 ⟨da, dn, dc, rfl, drc, dnm, qa1⟩
  have e0 := (HB1.out.later qa1).c0
  have e1 := (HB1.out.later qa1).c1
  obtain ⟨F, hF⟩ : ∃ F, F = M.wpE (M.wpC C H s d) (M.wpH C H s d) s (M.backV d) := ⟨_, rfl⟩
  have KP : Hid (Calls Tryz.prog 16 #[.agg #[.slice xa1 ln1 xc1, .slice ya1 lh1 yc1], .string s, .slice da dn dc] A1 fun e w' => ∃ v, e = .returned (.tuple #[v, .int .i64 F]) ∧ RepoOwn w' A1.heap.size v (M.wpC (M.wpC C H s d) (M.wpH C H s d) s (M.backV d)) (M.wpH (M.wpC C H s d) (M.wpH C H s d) s (M.backV d)) ∧ Below A1.heap.size A1 w') := by rw [hF]; exact wput_any xa1 ln1 xc1 _ ya1 lh1 yc1 _ s da dn dc (M.backV d) A1 (HB1.out.v.later qa1) drc dnm
  have HF : Aside (F = M.wpE (M.wpC C H s d) (M.wpH C H s d) s (M.backV d)) := hF
  obtain ⟨C2, hC2⟩ : ∃ C2, C2 = M.wpC (M.wpC C H s d) (M.wpH C H s d) s (M.backV d) := ⟨_, rfl⟩
  obtain ⟨H2, hH2⟩ : ∃ H2, H2 = M.wpH (M.wpC C H s d) (M.wpH C H s d) s (M.backV d) := ⟨_, rfl⟩
  have hOr := HOr.out
  rw [← hF, ← hC2, ← hH2] at hOr
  rw [← hC2, ← hH2] at KP
  have HOr2 : Hid (F = 2 ∨ (F = 0 ∧ M.hchk C2 H2 s = 0 ∧ M.hat C2 H2 s = ((C.length + 1 : Nat) : Int) ∧ C2.length = C.length + 2 ∧ (C2.getD (C.length + 1) ([], [])).1 = (C.getD xn ([], [])).1 ∧ (C2.getD xn ([], [])).1 = (C.getD xn ([], [])).1)) := hOr
  have bA1 := dbelow2 b1 qa1
  clear drc hF hC2 hH2 hOr HOr KB
  go_wp2_with fail
  refine KP.out.mono ?_
  rintro e v2 ⟨r2, rfl, o2, bb2⟩
  obtain ⟨xa2, xc2, ya2, yc2, rfl, V2⟩ := o2.v
  obtain ⟨ln2, hln2⟩ : ∃ ln, ln = C2.length := ⟨_, rfl⟩
  obtain ⟨lh2, hlh2⟩ : ∃ lh, lh = H2.length := ⟨_, rfl⟩
  rw [← hln2, ← hlh2] at V2 ⊢
  obtain ⟨X2, hX2⟩ : ∃ X, X = v2.alloc (.cells #[.slice xa2 ln2 xc2, .slice ya2 lh2 yc2] 25) := ⟨_, rfl⟩
  obtain ⟨p2, hp2⟩ : ∃ p, p = v2.heap.size := ⟨_, rfl⟩
  have bX2 : Below v2.heap.size v2 X2 := by rw [hX2]; exact (Below.refl _ _).alloc (Nat.le_refl _) _
  have HB2 : Hid (KBox X2 p2 xa2 ln2 xc2 C2 ya2 lh2 yc2 H2) := by rw [hX2, hp2]; exact KBox.new V2
  have HX2 : Hid (X2 = v2.alloc (.cells #[.slice xa2 ln2 xc2, .slice ya2 lh2 yc2] 25)) := hX2
  have HP2 : Aside (p2 = v2.heap.size) := hp2
  have b2 : Below W.heap.size W X2 := dbelow2 bA1 (dbelow2 bb2 bX2)
  have HLn2 : Aside (ln2 = C2.length) := hln2
  have HK2 : Hid (Below w.heap.size w X2) := hb.trans (b2.mono hb.size)
  clear e0 e1 o2 V2 hX2 hp2 bX2 bb2 hln2 hlh2 KP
  rcases HOr2.out with h2 | ⟨h2, k1, k2, k3, k4, k5⟩
  · subst h2
    go_wp2_with fail
    rw [← HX2.out]
    refine (begun_back HK2.out).mono ?_
    rintro e Y ⟨rfl, bY⟩
    go_wp2
    go_ret
    exact ⟨rfl, bY⟩
  · subst h2
    have HL2 : Hid (ln2 = n + 2) := by unfold Hid; rw [HLn2.out, k3, HNC.out]
    rw [HNC.out] at k2 k4
    have G1 : Hid (Calls Tryz.prog 13 #[.agg #[.slice xa2 ln2 xc2, .slice ya2 lh2 yc2], .string s] X2 fun e w' => e = .returned (.tuple #[.int .i64 ((n + 1 : Nat) : Int), .int .i64 0]) ∧ Below X2.heap.size X2 w') := by
      have q := HB2.out.v
      have := head_any xa2 ln2 xc2 _ ya2 lh2 yc2 _ s X2 q.cm q.nm q.hs q.hm
      rw [k1, k2] at this
      exact this
    have HK4 : Hid ((C2.getD (n + 1) ([], [])).1 = (C.getD xn ([], [])).1) := k4
    have HK5 : Hid ((C2.getD xn ([], [])).1 = (C.getD xn ([], [])).1) := k5
    have e0 := HB2.out.c0
    have e1 := HB2.out.c1
    rw [HX2.out, HP2.out] at e0 e1
    clear k1 k2 k3 k4 k5 HOr2
    go_wp2_with fail
    rw [← HX2.out, ← HP2.out]
    refine G1.out.mono ?_
    rintro e A3 ⟨rfl, qa3⟩
    have bA3 := dbelow2 b2 qa3
    have HBw : Hid (Below w.heap.size w A3) := hb.trans (bA3.mono hb.size)
    obtain ⟨b, off, rfl, hbl, r1, rn1, rc1, r1', rn1', rc1', t0, t1, s0, s1, m1, m1'⟩ := (HB2.out.later qa3).v.cm.nth (k := n + 1) (by have := HL2.out; omega)
    obtain ⟨b', off', he', _, r3, rn3, rc3, r3', rn3', rc3', t0', t1', s0', s1', m3', m3''⟩ := (HB2.out.later qa3).v.cm.nth (k := xn) (by have := HL2.out; omega)
    cases he'
    rw [HK4.out] at s0
    rw [HK5.out] at s0'
    obtain rfl : rn1 = rn3 := by rw [← s0.1, ← s0'.1]
    have HBx : Hid (∀ V, Later A3 V → V.cell? ⟨p2, 0, none⟩ = some (.slice (some ⟨b, off, none⟩) ln2 xc2) ∧ V.cell? ⟨b, off + (n + 1) * 2, none⟩ = some (.slice r1 rn1 rc1) ∧ V.cell? ⟨b, off + xn * 2, none⟩ = some (.slice r3 rn1 rc3)) := fun V hV => ⟨((HB2.out.later qa3).later hV.out).c0, (hV.out.cell (p := ⟨b, off + (n + 1) * 2, none⟩) hbl).trans t0, (hV.out.cell (p := ⟨b, off + xn * 2, none⟩) hbl).trans t0'⟩
    have HKS : Hid (∀ V, Later A3 V → Calls Tryz.prog 18 #[.slice r1 rn1 rc1, .slice r3 rn1 rc3] V fun e w' => e = .returned (.bool true) ∧ Later A3 w') := fun V hV => (same_yes r1 r3 rn1 rc1 rc3 _ V (s0.below hV.out (Nat.le_refl _)) (s0'.below hV.out (Nat.le_refl _)) m1).mono fun e w' ⟨h1, m, h2⟩ => ⟨h1, by rw [h2]; exact below_drewN hV.out m⟩
    clear e0 e1
    have e0 := (HB2.out.later qa3).c0
    have f0 := (HB.out.later bA3).c0
    have h10 : decide (((n + 1 : Nat) : Int) < 0) = false := by simp; omega
    have h11 : decide ((ln2 : Int) ≤ ((n + 1 : Nat) : Int)) = false := by have := HL2.out; simp; omega
    have h12 : decide ((xn : Int) < 0) = false := by simp
    have h13 : decide ((ln2 : Int) ≤ (xn : Int)) = false := by have := HL2.out; simp; omega
    have h14 : IntKind.i64.wrap ((n : Int) + 1) = ((n + 1 : Nat) : Int) := by rw [IntKind.wrap_i64]; have h0 := (M.dchk_zero (M.rchk_zero (M.hchk_zero HZ1.out.symm).1).1).1; have := HNC.out; omega
    have h15 : ((n + 1 : Nat) : Int) < (ln2 : Int) := by have := HL2.out; omega
    have h16 : (xn : Int) < (ln2 : Int) := by have := HL2.out; omega
    have h17 : 0 ≤ ((n + 1 : Nat) : Int) := by omega
    clear s0 s1 s0' s1' t0 t1 t0' t1' qa3
    go_wp2_with fail
    refine wp_region_later (W0 := A3) (by kernel_rfl) (by kernel_rfl) (Below.refl _ _) ?_
    go_big_quiet_want
    refine quiet_enter 10 #[] (.bool true) (fun W => by go_simp) (fun W hW => (wbegun_any W).mono fun e w' h => ⟨h.1, hW.out.trans (h.2.mono hW.out.size)⟩) ?_
    go_simp
    go_big_quiet_on
    go_big_quiet_want
    go_big_quiet_op
    go_big_quiet_on
    go_big_quiet_want
    refine quiet_val (.pointer (some ⟨p2, 0, none⟩)) (fun W hW => by go_simp) ?_
    go_simp
    go_big_quiet_on
    go_big_quiet_want
    refine quiet_val (.slice (some ⟨b, off, none⟩) ln2 xc2) (fun W hW => by obtain ⟨x0, x1, x2⟩ := HBx.out W hW; go_simp) ?_
    go_simp
    go_big_quiet_on
    go_big_quiet_want
    go_big_quiet_op
    go_big_quiet_on
    go_big_quiet_want
    refine quiet_val (.pointer (some ⟨b, off + (n + 1) * 2, none⟩)) (fun W hW => by go_simp) ?_
    go_simp
    go_big_quiet_on
    go_big_quiet_want
    refine quiet_val (.pointer (some ⟨b, off + (n + 1) * 2, none⟩)) (fun W hW => by go_simp) ?_
    go_simp
    go_big_quiet_on
    go_big_quiet_want
    refine quiet_val (.slice r1 rn1 rc1) (fun W hW => by obtain ⟨x0, x1, x2⟩ := HBx.out W hW; go_simp) ?_
    go_simp
    go_big_quiet_on
    go_big_quiet_want
    refine quiet_val (.pointer (some ⟨p2, 0, none⟩)) (fun W hW => by go_simp) ?_
    go_simp
    go_big_quiet_on
    go_big_quiet_want
    refine quiet_val (.slice (some ⟨b, off, none⟩) ln2 xc2) (fun W hW => by obtain ⟨x0, x1, x2⟩ := HBx.out W hW; go_simp) ?_
    go_simp
    go_big_quiet_on
    go_big_quiet_want
    go_big_quiet_op
    go_big_quiet_on
    go_big_quiet_want
    refine quiet_val (.pointer (some ⟨b, off + xn * 2, none⟩)) (fun W hW => by go_simp) ?_
    go_simp
    go_big_quiet_on
    go_big_quiet_want
    refine quiet_val (.pointer (some ⟨b, off + xn * 2, none⟩)) (fun W hW => by go_simp) ?_
    go_simp
    go_big_quiet_on
    go_big_quiet_want
    refine quiet_val (.slice r3 rn1 rc3) (fun W hW => by obtain ⟨x0, x1, x2⟩ := HBx.out W hW; go_simp) ?_
    go_simp
    go_big_quiet_on
    go_big_quiet_want
    refine quiet_enter 18 #[.slice r1 rn1 rc1, .slice r3 rn1 rc3] (.bool true) (fun W => by go_simp) (fun W hW => HKS.out W hW) ?_
    go_simp
    go_big_quiet_on
    go_big_quiet_want
    refine quiet_val (.bool true) (fun W hW => by go_simp) ?_
    go_simp
    go_big_quiet_on
    go_big_quiet_want
    go_big_quiet_op
    go_big_quiet_on
    refine wpQuiet_nil ?_
    intro w5 hL
    have bZ : Below w.heap.size w w5 := HBw.out.trans (hL.out.mono HBw.out.size)
    clear HBx HKS hL
    go_wp2
    go_ret
    exact ⟨rfl, bZ⟩
set_option maxRecDepth 100000 in
theorem workBack_lifted (os : Os) (started : os.Started) (H : Type) (enc : TypeId × Value → H) :
    ReturnsInHanded {} Tryz.checked os 5 .any (Rows.workBackSpec.pre6 enc Tryz.prog Tryz.f5 Rows.workBackRow.domain false) (Rows.workBackSpec.post enc Tryz.prog Tryz.f5 false true false false) := by
  refine returnsInHanded_of_change (C := Tryz.checked) ownTry started (by kernel_rfl) Tryz.func5
    (ChangeSpec.witness6 (enc := enc) (C := Tryz.checked) false ⟨#[], #[.agg #[.slice none 0 0, .slice none 0 0], .string ⟨#[]⟩, .slice none 0 0], []⟩ 8 (by kernel_rfl) (by kernel_rfl) (by kernel_rfl) (by kernel_rfl)) ?_
  intro W base args ds gs before hval0 hW hcnd _
  have hval : ∀ (j : Nat) t v, Tryz.f5.params[j]? = some t → args[j]? = some v → Value.okWide Tryz.prog W .any base t v := hval0
  have hW' := hW
  obtain ⟨p, q, hA0, hV, rfl, hfz, hnd⟩ := hW
  have hA : DataW.TrodAll enc Tryz.prog W 0 (fun _ => true) true Tryz.f5.params.toList args.toList ds p := hA0
  rw [Tryz.params5] at hA hval
  obtain ⟨v0, vs0, d0, ds0, p0, q0, hargs, rfl, rfl, h0, r0⟩ := trodAll_cons hA
  obtain ⟨v1, vs1, d1, ds1, p1, q1, rfl, rfl, rfl, h1, r1⟩ := trodAll_cons r0
  obtain ⟨v2, vs2, d2, ds2, p2, q2, rfl, rfl, rfl, h2, r2⟩ := trodAll_cons r1
  obtain ⟨rfl, rfl, rfl⟩ := trodAll_nil r2
  obtain rfl : args = #[v0, v1, v2] := by cases args; simp_all
  obtain ⟨rfl, rfl⟩ := trodVars_none hV
  have k0 := h0
  have lt0 : ∀ x ∈ p0, x.block < W.heap.size := by obtain ⟨m, hm⟩ := k0; exact DataW.trod_lt m _ _ _ hm
  obtain ⟨a0, n0, cap0, b0, m0, bap0, C0, L0, rfl, hv0, hcp0, hcm0⟩ := open_repoV (hval 0 25 v0 rfl rfl) h0
  obtain ⟨s1, rfl, rfl, rfl, hs1⟩ := Go.ChangeMaps.open_string Tryz.underlying9 (hval 1 9 v1 rfl rfl) h1
  obtain ⟨a2, len2, cap2, rfl⟩ := okWide_slice Tryz.underlying26 (hval 2 26 v2 rfl rfl)
  have k2 := h2
  have lt2 : ∀ x ∈ p2, x.block < W.heap.size := by obtain ⟨m, hm⟩ := k2; exact DataW.trod_lt m _ _ _ hm
  obtain ⟨L2, hrd2, hl2, hm2⟩ : ∃ L, Rc W a2 len2 L ∧ len2 ≤ cap2 ∧ cap2 ≤ maxLen := by
    obtain ⟨fuel, hf⟩ := h2
    exact open_changes (by simpa [Value.cells] using hf)
  clear hA0 hval0
  refine (workBack_walk a0 n0 cap0 C0 b0 m0 bap0 L0 s1 a2 len2 cap2 L2 W hv0 hrd2 (by unfold maxLen at hm2; omega)).mono fun e W' ⟨he, bel⟩ => ?_
  subst he
  exact ⟨_, rfl, _, _, _, [], _, [], hW', trodAll_mk1 (shut_bool Tryz.underlying4 _), (trodAll_cons_mk (Below.trod laidTry (by kernel_rfl) (of_decide_eq_true (by kernel_rfl)) k0 bel lt0) (trodAll_cons_mk (Go.ChangeMaps.shut_string Tryz.underlying9 hs1) (trodAll_cons_mk (Below.trod laidTry (by kernel_rfl) (of_decide_eq_true (by kernel_rfl)) k2 bel lt2) trodAll_mk0))), rfl, bel.frame _, fun h => by cases h⟩

theorem workBack_holds : Rows.WorkBackSaid :=
  OpenClaim.holds_of_wide 5 Tryz.f5 rfl rfl rfl rfl rfl rfl rfl ⟨rfl, rfl, rfl, rfl, rfl⟩ rfl rfl rfl rfl rfl (by kernel_rfl) Tryz.func5 (by kernel_rfl)
    (of_decide_eq_true (by kernel_rfl)) (by unfold Func.isWrapper; first | (rw [if_pos (by decide +kernel)]; kernel_rfl) | (rw [if_neg (by decide +kernel)]; exact ⟨rfl, rfl⟩))
    (fun os started H enc _ => workBack_lifted os started H enc)
#print axioms workBack_holds
end Go.Proofs.YtcgpgflnihjpiafGreat
