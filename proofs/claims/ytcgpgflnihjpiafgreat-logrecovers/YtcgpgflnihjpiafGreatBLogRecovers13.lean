/- The reference's OwnRepo. -/
import Derived.Test.YtcgpgflnihjpiafGreatBLogRecovers04
import Derived.Test.YtcgpgflnihjpiafGreatBLogRecovers03
import Derived.Test.YtcgpgflnihjpiafGreatBLogRecovers08
import Derived.Test.YtcgpgflnihjpiafGreatBLogRecovers07
import Derived.Test.YtcgpgflnihjpiafGreatBLogRecovers06
import Derived.Test.YtcgpgflnihjpiafGreatBLogRecovers01
import Derived.Test.YtcgpgflnihjpiafGreatBLogRecovers02
import Derived.Deep.RegionHeld3
namespace Go.Proofs.YtcgpgflnihjpiafGreat
open Go.RowKit Go.Shelf

/-- What OwnRepo's loop keeps: the repo that grows, in the box D. -/
structure RAt (Wp : World) (D : Nat) (x y : Value) (C : List M.Com) (H : List M.Hd) (w : World) : Prop where
  bel : Below Wp.heap.size Wp w
  blk : w.heap[D]? = some (.cells #[x, y] 25 (0, 0))
  k : OwnK w Wp.heap.size x C
  h : OwnH w Wp.heap.size y H
theorem RAt.later {Wp : World} {D : Nat} {x y : Value} {C : List M.Com} {H : List M.Hd} {w w' : World} (h : RAt Wp D x y C H w) (hb : Below w.heap.size w w') : RAt Wp D x y C H w' :=
  ⟨h.bel.trans (hb.mono h.bel.size), (hb.block D (Array.getElem?_eq_some_iff.1 h.blk).1).trans h.blk, h.k.later hb, h.h.later hb⟩
theorem RAt.put {Wp : World} {D : Nat} {x x' y : Value} {C : List M.Com} {c : M.Com} {q : Value × Value} {H : List M.Hd} {w w' : World} {vals : List (Value × Value)} (hD : Wp.heap.size ≤ D) (h : RAt Wp D x y C H w) (tmp : Obj) (hl : vals.length = C.length) (h1 : w.ownsRow Wp.heap.size 51 2 x C.length (encP vals)) (h2 : ∀ i, i < C.length → OwnCo w Wp.heap.size (vals.getD i vp0) (C.getD i ([], [])))
    (hq : OwnCo w Wp.heap.size q c) (h3 : w'.ownsRow Wp.heap.size 51 2 x' (C.length + 1) (encP vals ++ [q.1, q.2])) (hg : (w.alloc tmp).grownBy w' x.ownBlock) :
    RAt Wp D x' y (C ++ [c]) H (w'.setCell ⟨D, 0, none⟩ x') ∧ w'.heap[D]? = some (.cells #[x, y] 25 (0, 0)) := by
  have hlt := (Array.getElem?_eq_some_iff.1 h.blk).1
  have typ : ∀ r, x.ownBlock = some r → ∃ cur, (w.alloc tmp).heap[r]? = some (.cells cur 51 (0, 0)) := by
    intro r e
    rcases (h1.alloc tmp).2 with ⟨rfl, _⟩ | ⟨g, cap, cur', rfl, _, hgb, _⟩
    · simp [Value.ownBlock] at e
    · obtain rfl : g = r := by simpa [Value.ownBlock] using e
      exact ⟨_, hgb⟩
  have other : ∀ e, e ≠ 51 → ∀ r, x.ownBlock = some r → ∀ cur, (w.alloc tmp).heap[r]? ≠ some (.cells cur e (0, 0)) := by
    intro e he r hr cur hc
    obtain ⟨cur', hcur⟩ := typ r hr
    rw [hcur] at hc
    simp at hc
    exact he hc.2.symm
  have hDa : (w.alloc tmp).heap[D]? = some (.cells #[x, y] 25 (0, 0)) := by rw [Below.heap_alloc _ _ _ hlt]; exact h.blk
  have hne : x.ownBlock ≠ some D := fun e => other _ (by decide) D e _ hDa
  have hbk : w'.heap[D]? = some (.cells #[x, y] 25 (0, 0)) := by
    rw [hg.block D (by simp; omega) (fun e => hne e.symm)]; exact hDa
  have b1 : Below Wp.heap.size Wp w' := (h.bel.alloc h.bel.size tmp).grown hg (by have := h.bel.size; simp; omega) (fun k e => by
    have := (World.ownsRow.lt h1 k e).1; omega)
  have hba : Below w.heap.size w (w.alloc tmp) := (Below.refl _ _).alloc (Nat.le_refl _) _
  have K' : OwnK w' Wp.heap.size x' (C ++ [c]) := OwnK.append hl (h1.alloc tmp) (fun i hi => (h2 i hi).later hba) (hq.later hba) h3 hg
  have g2 := grownBy_set w' ⟨D, 0, none⟩ x'
  refine ⟨⟨b1.setCell (p := ⟨D, 0, none⟩) hD _, ?_, K'.elsewhere g2 hbk (by decide) (by decide) (by decide), OwnH.elsewhere ⟨ownsRow_elsewhere (h.h.later hba).1 hg (other _ (by decide)), h.h.2⟩ g2 hbk (by decide)⟩, hbk⟩
  rw [heap_setCell_same _ _ _ _ _ _ hbk]; rfl
theorem rown_end {Wp wr w5 w6 : World} {D k g6 cap6 : Nat} {x y v4 v5 : Value} {Ck : List M.Com} {cc : M.Com} {H : List M.Hd} {vals : List (Value × Value)} (hCl : Ck.length = k) (hVl : vals.length = Ck.length) (hrow : wr.ownsRow Wp.heap.size 51 2 x k (encP vals)) (hel : ∀ i, i < Ck.length → OwnCo wr Wp.heap.size (vals.getD i vp0) (Ck.getD i ([], []))) (hD : Wp.heap.size ≤ D)
    (hw5 : Below wr.heap.size wr w5) (hO : RAt Wp D x y Ck H w5) (hq : OwnCo w5 Wp.heap.size (v4, v5) cc) (h6 : w6.ownsRow Wp.heap.size 51 2 (.slice (some ⟨g6, 0, none⟩) (k + 1) cap6) (k + 1) (encP vals ++ [v4, v5])) (h7 : (w5.alloc (.cells #[v4, v5] 51)).grownBy w6 x.ownBlock) :
    RAt Wp D (.slice (some ⟨g6, 0, none⟩) (k + 1) cap6) y (Ck ++ [cc]) H (w6.setCell ⟨D, 0, none⟩ (.slice (some ⟨g6, 0, none⟩) (k + 1) cap6)) ∧ w6.heap[D]? = some (.cells #[x, y] 25 (0, 0)) := by
  subst hCl
  exact hO.put hD (.cells #[v4, v5] 51) hVl (ownsRow_later hrow hw5) (fun i hi => (hel i hi).later hw5) hq h6 h7
theorem own_other {w w' : World} {b1 b2 : Nat} {t1 t2 : TypeId} {s1 s2 n1 n2 : Nat} {v1 v2 : Value} {x1 x2 : List Value} (h1 : w.ownsRow b1 t1 s1 v1 n1 x1) (h2 : w.ownsRow b2 t2 s2 v2 n2 x2) (ht : t1 ≠ t2) (hg : w.grownBy w' v2.ownBlock) : w'.ownsRow b1 t1 s1 v1 n1 x1 :=
  keep_row h1 fun k hk e => hg.block k hk fun e2 => apart_rows h1 h2 ht k e e2.symm
theorem below_grown {w w' : World} {g : Option Nat} {B : Nat} (h : w.grownBy w' g) (hg : ∀ k, g = some k → B ≤ k) (hB : B ≤ w.heap.size) : Below B w w' :=
  (Below.refl B w).grown h hB hg

set_option maxRecDepth 100000 in
set_option maxHeartbeats 8000000 in
theorem ownRepo_any (a : Option Addr) (n cap : Nat) (C : List M.Com) (a2 : Option Addr) (n2 cap2 : Nat) (H : List M.Hd) (w : World) (hV : RepoV w a n cap C a2 n2 cap2 H) (hz : M.rchk C H = 0) :
    Calls Tryz.prog 103 #[.agg #[.slice a n cap, .slice a2 n2 cap2]] w fun e w' => ∃ v, e = .returned v ∧ RepoOwn w' w.heap.size v C H ∧ Below w.heap.size w w' := by
  obtain ⟨p, hp⟩ : ∃ p, p = w.heap.size := ⟨_, rfl⟩
  have I0 := InBox.new w a n cap C a2 n2 cap2 H hV.cm hV.hs
  obtain ⟨Wp, hWp⟩ : ∃ Wp, Wp = (w.alloc (.cells #[.slice a n cap, .slice a2 n2 cap2] 25)).alloc (.cells #[.slice none 0 0, .slice none 0 0] 25) := ⟨_, rfl⟩
  have hb0 : Below (w.alloc (.cells #[.slice a n cap, .slice a2 n2 cap2] 25)).heap.size (w.alloc (.cells #[.slice a n cap, .slice a2 n2 cap2] 25)) Wp := by rw [hWp]; exact (Below.refl _ _).alloc (Nat.le_refl _) _
  have I1 := I0.below hb0
  rw [← hp] at I1
  have hbp : Below w.heap.size w Wp := by rw [hWp]; exact ((Below.refl _ _).alloc (Nat.le_refl _) _).alloc (by simp) _
  have hsp : Wp.heap.size = p + 2 := by rw [hWp, hp]; simp
  have q2 : Wp.heap[p + 1]? = some (.cells #[.slice none 0 0, .slice none 0 0] 25 (0, 0)) := by
    rw [hWp, show p + 1 = (w.alloc (.cells #[.slice a n cap, .slice a2 n2 cap2] 25)).heap.size by rw [hp]; simp]
    exact heap_alloc_new _ _
  obtain ⟨Wh, hWh⟩ : ∃ Wh, Wh = Wp.alloc (.cells #[] 71) := ⟨_, rfl⟩
  have hbh : Below Wp.heap.size Wp Wh := by rw [hWh]; exact (Below.refl _ _).alloc (Nat.le_refl _) _
  have HO0 : Hid (OwnH Wh Wp.heap.size (.slice (some ⟨w.heap.size + 1 + 1, 0, none⟩) 0 0) []) := ⟨by rw [hWh, show w.heap.size + 1 + 1 = Wp.heap.size by rw [hsp, hp]]; exact own_empty Wp _ _ _ (Nat.le_refl _), fun x hx => by simp at hx⟩
  have HVp : Hid (RepoV Wp a n cap C a2 n2 cap2 H) := hV.later hbp
  have J := I1.below hbh
  have c0 := J.c0
  have c1 := J.c1
  have HI : Hid (InBox Wp p a n cap C a2 n2 cap2 H) := I1
  have HZ : Hid (M.rchk C H = 0) := hz
  have hn2 : n2 ≤ 4 := by have := (M.rchk_zero hz).2.1; have := hV.hs.1; omega
  have hn14 : n ≤ 14 := by have := (M.dchk_zero (M.rchk_zero hz).1).1; have := hV.cm.1; omega
  have HHs : Hid (Hs Wh a2 n2 H) := J.hs
  have HNil : Hid (a2 = none → n2 = 0 ∧ cap2 = 0) := hV.hn
  have HWh : Hid (Wh = ((w.alloc (.cells #[.slice a n cap, .slice a2 n2 cap2] 25)).alloc (.cells #[.slice none 0 0, .slice none 0 0] 25)).alloc (.cells #[] 71)) := by rw [← hWp]; exact hWh
  have HP : Aside (p = w.heap.size) := hp
  have HSp : Aside (Wp.heap.size = p + 2) := hsp
  have HQ2 : Hid (Wp.heap[p + 1]? = some (.cells #[.slice none 0 0, .slice none 0 0] 25 (0, 0))) := q2
  have hWs : Wp.heap.size ≤ Wh.heap.size := hbh.size
  have HN : Hid (w.heap.size + 1 + 1 = Wp.heap.size) := by unfold Hid; rw [hsp, hp]
  clear hWh hWp hp I0 I1 J hb0 hV hz q2 hsp
  go_enter Tryz.func103, Tryz.ntmps103
  go_wp2_with (at_builtin; refine wpl_heads rfl _ _ rfl Wp.heap.size (.slice (some ⟨w.heap.size + 1 + 1, 0, none⟩) 0 0) [] rfl (by rw [← HWh.out]; exact HO0.out) a2 n2 cap2 H rfl (by rw [← HWh.out]; exact HHs.out) HNil.out (by simp; omega) (by rw [← HWh.out]; exact hWs) ?_)
  rw [← HWh.out]
  intro v1 w1 ho hg
  have b1 : Below Wp.heap.size Wp w1 := hbh.trans (below_grown hg (fun k e => by have := World.ownsRow.lt HO0.out.1 k e; exact this.1) hWs)
  obtain ⟨D, hD⟩ : ∃ D, D = w1.heap.size := ⟨_, rfl⟩
  obtain ⟨W2, hW2⟩ : ∃ W2, W2 = w1.alloc (.cells #[.slice none 0 0, v1] 25) := ⟨_, rfl⟩
  have bW2 : Below w1.heap.size w1 W2 := by rw [hW2]; exact (Below.refl _ _).alloc (Nat.le_refl _) _
  have R0 : RAt Wp D (.slice none 0 0) v1 [] H W2 := ⟨b1.trans (bW2.mono b1.size), by rw [hW2, hD]; exact heap_alloc_new _ _, OwnK.nil _ _, ho.later bW2⟩
  have hDW : Wp.heap.size ≤ D := by rw [hD]; exact b1.size
  have hpD : p < D := by have := HSp.out; omega
  obtain ⟨ya, yc, rfl, _⟩ := ho.hs
  obtain ⟨yn, hyn⟩ : ∃ yn, yn = H.length := ⟨_, rfl⟩
  rw [← hyn] at R0 hW2 ⊢
  have HR0 : Aside (RAt Wp D (.slice none 0 0) (.slice ya yn yc) [] H W2) := R0
  have HW2 : Hid (W2 = w1.alloc (.cells #[.slice none 0 0, .slice ya yn yc] 25)) := hW2
  have HD : Aside (D = w1.heap.size) := hD
  clear hW2 hD R0 ho hg b1 bW2 c0 c1 HO0 HHs hyn
  go_wp2_with fail
  rw [← HW2.out, ← HD.out, ← HP.out]
  go_loopg [4] n (fun g i wr => ∃ (k : Nat) (x : Value), k + g = n ∧ i = .int .i64 k ∧ Aside (RAt Wp D x (.slice ya yn yc) (C.take k) H wr))
  case atStart => exact ⟨0, _, by omega, rfl, HR0⟩
  case round =>
    obtain ⟨k, x, hk, rfl, HOk⟩ := hrel
    have hbel := HOk.out.bel
    have J := HI.out.below hbel
    have JV := HVp.out.later hbel
    have d0 := J.c0
    by_cases hlt : k < n
    · obtain ⟨b, off, rfl, a1, n1, c1, a3, n3, c3, t0, t1, s0, s1, m0, m1⟩ : ∃ b off, a = some ⟨b, off, none⟩ ∧ ∃ a1 n1 c1 a2 n2 c2, wr.cell? ⟨b, off + k * 2, none⟩ = some (.slice a1 n1 c1) ∧ wr.cell? ⟨b, off + k * 2 + 1, none⟩ = some (.slice a2 n2 c2) ∧ Rd wr a1 n1 (C.getD k ([], [])).1 ∧ Ri wr a2 n2 (C.getD k ([], [])).2 ∧ n1 ≤ 9223372036854775807 ∧ n2 ≤ 9223372036854775807 := by
        rcases J.cm.cases with ⟨h0, _⟩ | ⟨b, off, e, _, _, _, hc⟩
        · omega
        · exact ⟨b, off, e, hc k hlt⟩
      obtain ⟨cc, hcc⟩ : ∃ cc, cc = C.getD k ([], []) := ⟨_, rfl⟩
      rw [← hcc] at s0 s1
      have hRk := (M.dchk_zero (M.rchk_zero HZ.out).1).2 k (by rw [J.cm.1]; exact hlt)
      rw [← hcc] at hRk
      have hn1 : n1 ≤ 40 := by rw [← s0.1]; exact ((M.chk_zero cc.1).1 hRk.1).1
      have hn3 : n3 ≤ 2 := by rw [← s1.1]; exact hRk.2.1
      have HN1 : Hid (a1 = none → n1 = 0 ∧ c1 = 0) := JV.cn b off rfl k hlt a1 n1 c1 (Or.inl t0)
      have HN3 : Hid (a3 = none → n3 = 0 ∧ c3 = 0) := JV.cn b off rfl k hlt a3 n3 c3 (Or.inr t1)
      have ET : Aside (C.take (k + 1) = C.take k ++ [cc]) := by unfold Aside; rw [List.take_succ_eq_append_getElem (by rw [J.cm.1]; exact hlt), hcc]; simp [List.getD, J.cm.1, hlt]
      obtain ⟨Ck, hCk⟩ : ∃ Ck, Ck = C.take k := ⟨_, rfl⟩
      have hCl : Ck.length = k := by rw [hCk, List.length_take, J.cm.1]; omega
      rw [← hCk] at ET HOk
      have HCl : Aside (Ck.length = k) := hCl
      obtain ⟨vals, hvl, hrow, hel⟩ := HOk.out.k
      have HVl : Aside (vals.length = Ck.length) := hvl
      have HRow : Aside (wr.ownsRow Wp.heap.size 51 2 x k (encP vals)) := by unfold Aside; rw [← hCl]; exact hrow
      have HEl : Aside (∀ i, i < Ck.length → OwnCo wr Wp.heap.size (vals.getD i vp0) (Ck.getD i ([], []))) := hel
      obtain ⟨xa, xn, xc, rfl⟩ : ∃ xa xn xc, x = .slice xa xn xc := by obtain ⟨xa, xc, e, _⟩ := HOk.out.k.cm; exact ⟨xa, _, xc, e⟩
      have hDr : D < wr.heap.size := (Array.getElem?_eq_some_iff.1 HOk.out.blk).1
      have hBr : b < wr.heap.size := World.block_lt_of_cell? wr ⟨b, off + k * 2, none⟩ t0
      have hBp : b < Wp.heap.size := by
        rcases HVp.out.cm.cases with ⟨h0, _⟩ | ⟨b', off', e, _, _, hB, _⟩
        · omega
        · cases e; exact hB
      have HSV : Hid (∀ V, Below wr.heap.size wr V → V.cell? ⟨D, 0, none⟩ = some (.slice xa xn xc) ∧ V.cell? ⟨p, 0, none⟩ = some (.slice (some ⟨b, off, none⟩) n cap) ∧ V.cell? ⟨b, off + k * 2, none⟩ = some (.slice a1 n1 c1) ∧ V.cell? ⟨b, off + k * 2 + 1, none⟩ = some (.slice a3 n3 c3)) := fun V hV => by
        refine ⟨?_, ?_, ?_, ?_⟩
        · rw [cell_of_row _ _ _ _ _ _ (HOk.out.later hV).blk]; rfl
        · exact (hV.cell (p := ⟨p, 0, none⟩) (by show p < _; omega)).trans d0
        · exact (hV.cell (p := ⟨b, off + k * 2, none⟩) hBr).trans t0
        · exact (hV.cell (p := ⟨b, off + k * 2 + 1, none⟩) hBr).trans t1
      have HS0 : Hid (Rd wr a1 n1 cc.1) := s0
      have HS1 : Hid (Ri wr a3 n3 cc.2) := s1
      have HLe : Hid (cc.1.length ≤ 1000000 ∧ cc.2.length ≤ 1000000) := ⟨by rw [s0.1]; omega, by rw [s1.1]; omega⟩
      have hWr : Wp.heap.size ≤ wr.heap.size := hbel.size
      have HBd : Hid (Below wr.heap.size wr wr.drew) := (Below.refl _ _).drew
      have hki : (k : Int) < (n : Int) := by omega
      obtain ⟨i1, hi1, hy0, hy1, hy2⟩ := info_parts infoCommit
      clear hcc hRk hCk hCl hvl hrow hel s0 s1 J JV
      go_wp2_with fail
      refine wp_region_till 22 (fun V => V.cell? ⟨D, 0, none⟩ = some (.slice xa xn xc) ∧ V.cell? ⟨p, 0, none⟩ = some (.slice (some ⟨b, off, none⟩) n cap) ∧ V.cell? ⟨b, off + k * 2, none⟩ = some (.slice a1 n1 c1) ∧ V.cell? ⟨b, off + k * 2 + 1, none⟩ = some (.slice a3 n3 c3)) (by kernel_rfl) (HSV.out _ HBd.out) (fun hHeld => ?_)
      refine till_go 0 (v := .pointer (some ⟨D, 0, none⟩)) rfl (by decide) (by kernel_rfl) (by kernel_rfl) (by kernel_rfl) (fun _ _ _ h => h) (Or.inl ⟨by rfl, fun V _ => (by go_simp)⟩) hHeld ?_
      try simp only [Act.put]
      refine till_take 1 (v := .slice xa xn xc) rfl (by decide) (by kernel_rfl) (by kernel_rfl) (by kernel_rfl) (by kernel_rfl) (by kernel_rfl) (fun _ _ _ h => h) (Or.inl ⟨by rfl, fun V hV => (by obtain ⟨v0, v1, v2, v3⟩ := hV; go_simp)⟩) hHeld ?_
      try simp only [Act.put]
      refine till_go 3 (v := .pointer (some ⟨p, 0, none⟩)) rfl (by decide) (by kernel_rfl) (by kernel_rfl) (by kernel_rfl) (fun _ _ _ h => h) (Or.inl ⟨by rfl, fun V _ => (by go_simp)⟩) hHeld ?_
      try simp only [Act.put]
      refine till_take 4 (v := .slice (some ⟨b, off, none⟩) n cap) rfl (by decide) (by kernel_rfl) (by kernel_rfl) (by kernel_rfl) (by kernel_rfl) (by kernel_rfl) (fun _ _ _ h => h) (Or.inl ⟨by rfl, fun V hV => (by obtain ⟨v0, v1, v2, v3⟩ := hV; go_simp)⟩) hHeld ?_
      try simp only [Act.put]
      refine till_go 5 (v := .int .i64 (k : Int)) rfl (by decide) (by kernel_rfl) (by kernel_rfl) (by kernel_rfl) (fun _ _ _ h => h) (Or.inl ⟨by rfl, fun V _ => (by go_simp)⟩) hHeld ?_
      try simp only [Act.put]
      refine till_go 6 (v := .pointer (some ⟨b, off + k * 2, none⟩)) rfl (by decide) (by kernel_rfl) (by kernel_rfl) (by kernel_rfl) (fun _ _ _ h => h) (Or.inl ⟨by rfl, fun V _ => (by go_simp)⟩) hHeld ?_
      try simp only [Act.put]
      refine till_go 7 (v := .pointer (some ⟨b, off + k * 2, none⟩)) rfl (by decide) (by kernel_rfl) (by kernel_rfl) (by kernel_rfl) (fun _ _ _ h => h) (Or.inl ⟨by rfl, fun V _ => (by go_simp)⟩) hHeld ?_
      try simp only [Act.put]
      refine till_take 8 (v := .slice a1 n1 c1) rfl (by decide) (by kernel_rfl) (by kernel_rfl) (by kernel_rfl) (by kernel_rfl) (by kernel_rfl) (fun _ _ _ h => h) (Or.inl ⟨by rfl, fun V hV => (by obtain ⟨v0, v1, v2, v3⟩ := hV; go_simp)⟩) hHeld ?_
      try simp only [Act.put]
      refine till_go 11 (v := .pointer (some ⟨p, 0, none⟩)) rfl (by decide) (by kernel_rfl) (by kernel_rfl) (by kernel_rfl) (fun _ _ _ h => h) (Or.inl ⟨by rfl, fun V _ => (by go_simp)⟩) hHeld ?_
      try simp only [Act.put]
      refine till_take 12 (v := .slice (some ⟨b, off, none⟩) n cap) rfl (by decide) (by kernel_rfl) (by kernel_rfl) (by kernel_rfl) (by kernel_rfl) (by kernel_rfl) (fun _ _ _ h => h) (Or.inl ⟨by rfl, fun V hV => (by obtain ⟨v0, v1, v2, v3⟩ := hV; go_simp)⟩) hHeld ?_
      try simp only [Act.put]
      refine till_go 13 (v := .int .i64 (k : Int)) rfl (by decide) (by kernel_rfl) (by kernel_rfl) (by kernel_rfl) (fun _ _ _ h => h) (Or.inl ⟨by rfl, fun V _ => (by go_simp)⟩) hHeld ?_
      try simp only [Act.put]
      refine till_go 14 (v := .pointer (some ⟨b, off + k * 2, none⟩)) rfl (by decide) (by kernel_rfl) (by kernel_rfl) (by kernel_rfl) (fun _ _ _ h => h) (Or.inl ⟨by rfl, fun V _ => (by go_simp)⟩) hHeld ?_
      try simp only [Act.put]
      refine till_go 15 (v := .pointer (some ⟨b, off + k * 2 + 1, none⟩)) rfl (by decide) (by kernel_rfl) (by kernel_rfl) (by kernel_rfl) (fun _ _ _ h => h) (Or.inl ⟨by rfl, fun V _ => (by go_simp)⟩) hHeld ?_
      try simp only [Act.put]
      refine till_take 16 (v := .slice a3 n3 c3) rfl (by decide) (by kernel_rfl) (by kernel_rfl) (by kernel_rfl) (by kernel_rfl) (by kernel_rfl) (fun _ _ _ h => h) (Or.inl ⟨by rfl, fun V hV => (by obtain ⟨v0, v1, v2, v3⟩ := hV; go_simp)⟩) hHeld ?_
      try simp only [Act.put]
      refine till_two 2 10 rfl rfl (by decide) (by decide) (by kernel_rfl) (fun K hK => ?hA) (fun K hK => ?hB)
      case' hA =>
        go_simp
        have pb1 : Below wr.heap.size wr (wr.alloc (.cells #[] 98)).drew := ((Below.refl _ _).alloc (Nat.le_refl _) _).drew
        have or1 : Own (wr.alloc (.cells #[] 98)).drew Wp.heap.size (.slice (some ⟨wr.heap.size, 0, none⟩) 0 0) [] := ownsRow_later (own_empty wr _ _ _ hWr) ((Below.refl _ _).drew)
        refine hK.out _ _ (HSV.out _ pb1) (fun hHeld => ?_)
        clear hK K
        refine till_two 9 10 rfl rfl (by decide) (by decide) (by kernel_rfl) (fun K hK => ?hC) (fun K hK => ?hD)
        case' hC =>
          refine step_rows rfl _ _ rfl Wp.heap.size _ [] rfl or1 a1 n1 c1 cc.1 rfl (HS0.out.below pb1 (Nat.le_refl _)) HN1.out (by simp; omega) (Nat.le_trans hWr (pb1).size) ?_
          intro v4 w4 o4 g4
          simp only [List.nil_append] at o4
          have pb4 : Below wr.heap.size wr w4 := pb1.trans (below_grown g4 (fun k e => by have e2 := Option.some.inj e; simp at e2; omega) pb1.size)
          refine hK.out _ _ (HSV.out _ pb4) (fun hHeld => ?_)
          clear hK K
          refine till_step 10 rfl (by decide) (by kernel_rfl) (fun K hK => ?_)
          go_simp
          have pb5 : Below wr.heap.size wr (w4.alloc (.cells #[] 3)) := pb4.alloc pb4.size _
          have oi5 : OwnI (w4.alloc (.cells #[] 3)) Wp.heap.size (.slice (some ⟨w4.heap.size, 0, none⟩) 0 0) [] := own_empty w4 _ _ _ (Nat.le_trans hWr pb4.size)
          refine hK.out _ _ (HSV.out _ pb5) (fun hHeld => ?_)
          clear hK K
          refine till_step 17 rfl (by decide) (by kernel_rfl) (fun K hK => ?_)
          refine step_ints rfl _ _ rfl Wp.heap.size _ [] rfl oi5 a3 n3 c3 cc.2 rfl (HS1.out.below pb5 (Nat.le_refl _)) HN3.out (by simp; omega) (Nat.le_trans hWr (pb5).size) ?_
          intro v5 w5 o5 g5
          simp only [List.nil_append] at o5
          have q45 : Below w4.heap.size w4 w5 := ((Below.refl _ _).alloc (Nat.le_refl _) _).trans (below_grown g5 (fun k e => by have e2 := Option.some.inj e; simp at e2; omega) (by simp))
          have H5 : Hid (OwnCo w5 Wp.heap.size (v4, v5) cc) := ⟨ownsRow_later o4 q45, o5, HLe.out⟩
          have b5 : Hid (Below wr.heap.size wr w5) := pb4.trans (q45.mono pb4.size)
          refine hK.out _ _ (HSV.out _ b5.out) (fun hHeld => ?_)
          clear hK K o4 o5 g4 g5 or1 oi5 pb1 pb4 pb5 q45
        case' hD =>
          go_simp
          have pb2 : Below wr.heap.size wr ((wr.alloc (.cells #[] 98)).alloc (.cells #[] 3)).drew := (((Below.refl _ _).alloc (Nat.le_refl _) _).alloc (by simp) _).drew
          have or2 : Own ((wr.alloc (.cells #[] 98)).alloc (.cells #[] 3)).drew Wp.heap.size (.slice (some ⟨wr.heap.size, 0, none⟩) 0 0) [] := ownsRow_later ((own_empty wr _ _ _ hWr).alloc _) ((Below.refl _ _).drew)
          have oi2 : OwnI ((wr.alloc (.cells #[] 98)).alloc (.cells #[] 3)).drew Wp.heap.size (.slice (some ⟨wr.heap.size + 1, 0, none⟩) 0 0) [] := ownsRow_later (by have := own_empty (wr.alloc (.cells #[] 98)) Wp.heap.size 3 1 (by simp; omega); simpa using this) ((Below.refl _ _).drew)
          refine hK.out _ _ (HSV.out _ pb2) (fun hHeld => ?_)
          clear hK K
          refine till_step 9 rfl (by decide) (by kernel_rfl) (fun K hK => ?_)
          refine step_rows rfl _ _ rfl Wp.heap.size _ [] rfl or2 a1 n1 c1 cc.1 rfl (HS0.out.below pb2 (Nat.le_refl _)) HN1.out (by simp; omega) (Nat.le_trans hWr (pb2).size) ?_
          intro v4 w4 o4 g4
          simp only [List.nil_append] at o4
          have pb4 : Below wr.heap.size wr w4 := pb2.trans (below_grown g4 (fun k e => by have e2 := Option.some.inj e; simp at e2; omega) pb2.size)
          have oi4 : OwnI w4 Wp.heap.size (.slice (some ⟨wr.heap.size + 1, 0, none⟩) 0 0) [] := own_other oi2 or2 (by decide) g4
          refine hK.out _ _ (HSV.out _ pb4) (fun hHeld => ?_)
          clear hK K
          refine till_step 17 rfl (by decide) (by kernel_rfl) (fun K hK => ?_)
          refine step_ints rfl _ _ rfl Wp.heap.size _ [] rfl oi4 a3 n3 c3 cc.2 rfl (HS1.out.below pb4 (Nat.le_refl _)) HN3.out (by simp; omega) (Nat.le_trans hWr (pb4).size) ?_
          intro v5 w5 o5 g5
          simp only [List.nil_append] at o5
          have H5 : Hid (OwnCo w5 Wp.heap.size (v4, v5) cc) := ⟨own_other o4 oi4 (by decide) g5, o5, HLe.out⟩
          have b5 : Hid (Below wr.heap.size wr w5) := pb4.trans (below_grown g5 (fun k e => by have e2 := Option.some.inj e; simp at e2; omega) pb4.size)
          refine hK.out _ _ (HSV.out _ b5.out) (fun hHeld => ?_)
          clear hK K o4 o5 g4 g5 or1 or2 oi2 oi4 pb1 pb2 pb4
      case' hB =>
        go_simp
        have pb1 : Below wr.heap.size wr (wr.alloc (.cells #[] 3)).drew := ((Below.refl _ _).alloc (Nat.le_refl _) _).drew
        refine hK.out _ _ (HSV.out _ pb1) (fun hHeld => ?_)
        clear hK K
        refine till_step 2 rfl (by decide) (by kernel_rfl) (fun K hK => ?_)
        go_simp
        have pb2 : Below wr.heap.size wr ((wr.alloc (.cells #[] 3)).alloc (.cells #[] 98)).drew := (((Below.refl _ _).alloc (Nat.le_refl _) _).alloc (by simp) _).drew
        have oi2 : OwnI ((wr.alloc (.cells #[] 3)).alloc (.cells #[] 98)).drew Wp.heap.size (.slice (some ⟨wr.heap.size, 0, none⟩) 0 0) [] := ownsRow_later ((own_empty wr _ _ _ hWr).alloc _) ((Below.refl _ _).drew)
        have or2 : Own ((wr.alloc (.cells #[] 3)).alloc (.cells #[] 98)).drew Wp.heap.size (.slice (some ⟨wr.heap.size + 1, 0, none⟩) 0 0) [] := ownsRow_later (by have := own_empty (wr.alloc (.cells #[] 3)) Wp.heap.size 98 2 (by simp; omega); simpa [YtcgpgflnihjpiafGreat.enc] using this) ((Below.refl _ _).drew)
        refine hK.out _ _ (HSV.out _ pb2) (fun hHeld => ?_)
        clear hK K
        refine till_step 9 rfl (by decide) (by kernel_rfl) (fun K hK => ?_)
        refine step_rows rfl _ _ rfl Wp.heap.size _ [] rfl or2 a1 n1 c1 cc.1 rfl (HS0.out.below pb2 (Nat.le_refl _)) HN1.out (by simp; omega) (Nat.le_trans hWr (pb2).size) ?_
        intro v4 w4 o4 g4
        simp only [List.nil_append] at o4
        have pb4 : Below wr.heap.size wr w4 := pb2.trans (below_grown g4 (fun k e => by have e2 := Option.some.inj e; simp at e2; omega) pb2.size)
        have oi4 : OwnI w4 Wp.heap.size (.slice (some ⟨wr.heap.size, 0, none⟩) 0 0) [] := own_other oi2 or2 (by decide) g4
        refine hK.out _ _ (HSV.out _ pb4) (fun hHeld => ?_)
        clear hK K
        refine till_step 17 rfl (by decide) (by kernel_rfl) (fun K hK => ?_)
        refine step_ints rfl _ _ rfl Wp.heap.size _ [] rfl oi4 a3 n3 c3 cc.2 rfl (HS1.out.below pb4 (Nat.le_refl _)) HN3.out (by simp; omega) (Nat.le_trans hWr (pb4).size) ?_
        intro v5 w5 o5 g5
        simp only [List.nil_append] at o5
        have H5 : Hid (OwnCo w5 Wp.heap.size (v4, v5) cc) := ⟨own_other o4 oi4 (by decide) g5, o5, HLe.out⟩
        have b5 : Hid (Below wr.heap.size wr w5) := pb4.trans (below_grown g5 (fun k e => by have e2 := Option.some.inj e; simp at e2; omega) pb4.size)
        refine hK.out _ _ (HSV.out _ b5.out) (fun hHeld => ?_)
        clear hK K o4 o5 g4 g5 or2 oi2 oi4 pb1 pb2 pb4
      all_goals
        obtain ⟨ua, uc, e4, _⟩ := H5.out.1.rd
        obtain ⟨ub, ud, e5, _⟩ := H5.out.2.1.ri
        obtain ⟨u1, hu1⟩ : ∃ u1, u1 = cc.1.length := ⟨_, rfl⟩
        obtain ⟨u3, hu3⟩ : ∃ u3, u3 = cc.2.length := ⟨_, rfl⟩
        rw [← hu1] at e4
        rw [← hu3] at e5
        dsimp only at e4 e5
        subst e4 e5
        clear hu1 hu3
        have hs5 : wr.heap.size ≤ w5.heap.size := b5.out.size
        have HRA : Hid ((w5.alloc (.cells #[.slice ua u1 uc, .slice ub u3 ud] 51)).ownsRow Wp.heap.size 51 2 (.slice xa xn xc) k (encP vals)) := (ownsRow_later HRow.out b5.out).alloc _
        have pb6 : Below wr.heap.size wr (w5.alloc (.cells #[.slice ua u1 uc, .slice ub u3 ud] 51)) := b5.out.alloc hs5 _
        refine till_go 18 (v := .agg #[.slice ua u1 uc, .slice ub u3 ud]) rfl (by decide) (by kernel_rfl) (by kernel_rfl) (by kernel_rfl) (fun _ _ _ h => h) (Or.inl ⟨by rfl, fun V _ => (by go_simp)⟩) hHeld ?_
        try simp only [Act.put]
        refine till_step 19 rfl (by decide) (by kernel_rfl) (fun K hK => ?_)
        go_simp
        refine hK.out _ _ (HSV.out _ pb6) (fun hHeld => ?_)
        clear hK K
        refine till_step 20 rfl (by decide) (by kernel_rfl) (fun K hK => ?_)
        refine step_append_lies _ rfl _ _ 22 rfl Wp.heap.size 51 i1 (.agg #[.slice none 0 0, .slice none 0 0]) 2 48 Tryz.underlying22 hi1 hy0 hy1 hy2 rfl (by decide) _ k (encP vals) rfl HRA.out ⟨w5.heap.size, 0, none⟩ 1 1 [.slice ua u1 uc, .slice ub u3 ud] rfl rfl (cell_pair_new _ _ _ _) (by simp [Value.oneCell']) (by decide) (by simp only [maxLen]; omega) (by omega) (by simp; omega) _ rfl ?_
        intro g6 cap6 w6 h6 h7 _ _
        obtain ⟨P1, P2⟩ := rown_end HCl.out HVl.out HRow.out HEl.out hDW b5.out (HOk.out.later b5.out) H5.out h6 h7
        have k6 : w6.cell? ⟨D, 0, none⟩ = some (.slice xa xn xc) := by rw [cell_of_row _ _ _ _ _ _ P2]; rfl
        have f6 : w6.frozen? ⟨D, 0, none⟩ = false := frozen_of_row _ _ _ _ _ P2
        have g6b : ∀ q, q < wr.heap.size → q ≠ D → w6.heap[q]? = wr.heap[q]? ∨ (Value.slice xa xn xc).ownBlock = some q := fun q hq _ => by
          by_cases e : (Value.slice xa xn xc).ownBlock = some q
          · exact Or.inr e
          · exact Or.inl ((h7.block q (by simp; omega) (fun e2 => e e2.symm)).trans (pb6.block q hq))
        have typ : ∀ q, (Value.slice xa xn xc).ownBlock = some q → Wp.heap.size ≤ q := fun q e => (World.ownsRow.lt HRow.out q e).1
        have low : ∀ q, q < Wp.heap.size → w6.heap[q]? = wr.heap[q]? := fun q hq => by
          rcases g6b q (by omega) (by omega) with h | h
          · exact h
          · have := typ q h; omega
        have hA6 : Hid (w6.cell? ⟨D, 0, none⟩ = some (.slice xa xn xc) ∧ w6.cell? ⟨p, 0, none⟩ = some (.slice (some ⟨b, off, none⟩) n cap) ∧ w6.cell? ⟨b, off + k * 2, none⟩ = some (.slice a1 n1 c1) ∧ w6.cell? ⟨b, off + k * 2 + 1, none⟩ = some (.slice a3 n3 c3)) := by
          have hp2 := HSp.out
          exact ⟨k6, (World.cell?_of_block (a := ⟨p, 0, none⟩) (low p (by omega))).trans d0, (World.cell?_of_block (a := ⟨b, off + k * 2, none⟩) (low b hBp)).trans t0, (World.cell?_of_block (a := ⟨b, off + k * 2 + 1, none⟩) (low b hBp)).trans t1⟩
        have HE6 : Aside (RAt Wp D (.slice (some ⟨g6, 0, none⟩) (k + 1) cap6) (.slice ya yn yc) (C.take (k + 1)) H (w6.setCell ⟨D, 0, none⟩ (.slice (some ⟨g6, 0, none⟩) (k + 1) cap6))) := by unfold Aside; rw [ET.out]; exact P1
        clear P1 P2 h6 h7 g6b typ low
        refine hK.out _ _ hA6.out (fun hHeld => ?_)
        clear hK K
        refine till_go 21 (v := .pointer (some ⟨D, 0, none⟩)) rfl (by decide) (by kernel_rfl) (by kernel_rfl) (by kernel_rfl) (fun _ _ _ h => h) (Or.inl ⟨by rfl, fun V _ => (by go_simp)⟩) hHeld ?_
        try simp only [Act.put]
        refine till_last rfl (by kernel_rfl) (by kernel_rfl) (fun K hK => ?_) _
        go_simp
        refine hK.out _ _ ?_
        clear hK K
        clear hA6 HRA H5 HSV pb6 b5
        go_wp2
        go_roundg (gk - 1)
        case measure => omega
        case rel => exact ⟨k + 1, _, by omega, by go_num, HE6⟩
    · obtain rfl : k = n := by omega
      have hkk2 : decide ((k : Int) < (k : Int)) = false := by simp
      have hO := HOk.out
      rw [List.take_of_length_le (by rw [J.cm.1]; omega)] at hO
      obtain ⟨xa, xc, rfl, _⟩ := hO.k.cm
      obtain ⟨xn, hxn⟩ : ∃ xn, xn = C.length := ⟨_, rfl⟩
      rw [← hxn] at hO
      have r2 : wr.heap[p + 1]? = some (.cells #[.slice none 0 0, .slice none 0 0] 25 (0, 0)) := (hbel.block (p + 1) (by have := HSp.out; omega)).trans HQ2.out
      have e0 : wr.cell? ⟨D, 0, none⟩ = some (.slice xa xn xc) := by rw [cell_of_row _ _ _ _ _ _ hO.blk]; rfl
      have e1 : wr.cell? ⟨D, 1, none⟩ = some (.slice ya yn yc) := by rw [cell_of_row _ _ _ _ _ _ hO.blk]; rfl
      have HRO : Aside (RepoOwn ((wr.setCell ⟨p + 1, 0, none⟩ (.slice xa xn xc)).setCell ⟨p + 1, 1, none⟩ (.slice ya yn yc)) w.heap.size (.agg #[.slice xa xn xc, .slice ya yn yc]) C H) := (repoOwn_set r2 hO.k hO.h).lower (by have := HSp.out; have := HP.out; omega)
      obtain ⟨g1, g2, g3⟩ := res_set r2 (.slice xa xn xc) (.slice ya yn yc)
      obtain ⟨X, hX⟩ : ∃ X, X = (wr.setCell ⟨p + 1, 0, none⟩ (.slice xa xn xc)).setCell ⟨p + 1, 1, none⟩ (.slice ya yn yc) := ⟨_, rfl⟩
      rw [← hX] at g1 HRO
      have hbw : Below w.heap.size w wr := hbp.trans (hbel.mono hbp.size)
      have bX : Below w.heap.size w X := by rw [hX]; exact (hbw.setCell (p := ⟨p + 1, 0, none⟩) (by show _ ≤ p + 1; have := HP.out; omega) _).setCell (p := ⟨p + 1, 1, none⟩) (by show _ ≤ p + 1; have := HP.out; omega) _
      have HX9 : Hid (X = (wr.setCell ⟨p + 1, 0, none⟩ (.slice xa xn xc)).setCell ⟨p + 1, 1, none⟩ (.slice ya yn yc)) := hX
      have HX0 : Aside (X.cell? ⟨p + 1, 0, none⟩ = some (.slice xa xn xc)) := by unfold Aside; rw [cell_of_row _ _ _ _ _ _ g1]; rfl
      have HX1 : Aside (X.cell? ⟨p + 1, 1, none⟩ = some (.slice ya yn yc)) := by unfold Aside; rw [cell_of_row _ _ _ _ _ _ g1]; rfl
      have x0 : wr.cell? ⟨p + 1, 0, none⟩ = some (.slice none 0 0) := by rw [cell_of_row _ _ _ _ _ _ r2]; rfl
      have x1 : wr.cell? ⟨p + 1, 1, none⟩ = some (.slice none 0 0) := by rw [cell_of_row _ _ _ _ _ _ r2]; rfl
      have f0 : wr.frozen? ⟨p + 1, 0, none⟩ = false := frozen_of_row _ _ _ _ _ r2
      have f1 : wr.frozen? ⟨p + 1, 1, none⟩ = false := frozen_of_row _ _ _ _ _ r2
      clear g1 g2 g3 hX r2 hO HOk J JV hxn
      go_wp2
      rw [← HX9.out]
      have y0 := HX0.out
      have y1 := HX1.out
      refine bodyPost_ret (v := .agg #[.slice xa xn xc, .slice ya yn yc]) (by simp [results, Tryz.results103, go_sem, y0, y1]) rfl ?_
      exact ⟨_, rfl, HRO.out, bX⟩
end Go.Proofs.YtcgpgflnihjpiafGreat

/- The reference's grown. -/
namespace Go.Proofs.YtcgpgflnihjpiafGreat
open Go.RowKit Go.Shelf

theorem Cm.nth {w : World} {a : Option Addr} {n : Nat} {C : List M.Com} (h : Cm w a n C) {k : Nat} (hk : k < n) : ∃ b off, a = some ⟨b, off, none⟩ ∧ b < w.heap.size ∧ ∃ a1 n1 c1 a2 n2 c2, w.cell? ⟨b, off + k * 2, none⟩ = some (.slice a1 n1 c1) ∧ w.cell? ⟨b, off + k * 2 + 1, none⟩ = some (.slice a2 n2 c2) ∧ Rd w a1 n1 (C.getD k ([], [])).1 ∧ Ri w a2 n2 (C.getD k ([], [])).2 ∧ n1 ≤ 9223372036854775807 ∧ n2 ≤ 9223372036854775807 := by
  rcases h.cases with ⟨h0, _⟩ | ⟨b, off, e, _, _, hB, hc⟩
  · omega
  · exact ⟨b, off, e, hB, hc k hk⟩
/-- A repo of the call's own in the box D, whose head k is set at another commit. -/
theorem boxed_moved {w : World} {B D g cap k : Nat} {x : Value} {C : List M.Com} {H : List M.Hd} (n : Int) (h1 : w.heap[D]? = some (.cells #[x, .slice (some ⟨g, 0, none⟩) H.length cap] 25 (0, 0))) (h3 : OwnK w B x C) (h4 : OwnH w B (.slice (some ⟨g, 0, none⟩) H.length cap) H) (hk : k < H.length) :
    (w.setCell ⟨g, k * 2 + 1, none⟩ (.int .i64 n)).heap[D]? = some (.cells #[x, .slice (some ⟨g, 0, none⟩) H.length cap] 25 (0, 0)) ∧ OwnK (w.setCell ⟨g, k * 2 + 1, none⟩ (.int .i64 n)) B x C ∧ OwnH (w.setCell ⟨g, k * 2 + 1, none⟩ (.int .i64 n)) B (.slice (some ⟨g, 0, none⟩) H.length cap) (M.setH H k n) ∧ w.frozen? ⟨g, k * 2 + 1, none⟩ = false ∧ B ≤ g ∧ w.cell? ⟨g, k * 2 + 1, none⟩ = some (.int .i64 (H.getD k M.hd0).2) := by
  have h40 := h4.1
  obtain ⟨⟨hl, hor⟩, hsm⟩ := h4
  rcases hor with ⟨e, _⟩ | ⟨g', cap', cur, e, hb, hh, hc, hm, hz, hx⟩
  · simp at e
  · simp only [Value.slice.injEq, Option.some.injEq, Addr.mk.injEq] at e
    obtain ⟨⟨rfl, _⟩, _, rfl⟩ := e
    have gg := grownBy_set w ⟨g, k * 2 + 1, none⟩ (.int .i64 n)
    have hgD : g ≠ D := fun e => by rw [e, h1] at hh; simp at hh
    refine ⟨?_, h3.elsewhere gg hh (by decide) (by decide) (by decide), ⟨⟨?_, Or.inr ⟨g, cap, cur.setIfInBounds (k * 2 + 1) (.int .i64 n), by simp [M.setH], hb, ?_, by simpa [M.setH] using hc, hm, by simpa using hz, ?_⟩⟩, ?_⟩, frozen_of_row _ _ _ _ _ hh, hb, ?_⟩
    · rw [heap_setCell_other _ _ _ _ (fun e => hgD e.symm)]; exact h1
    · simp [encH_length]
    · exact heap_setCell_same _ _ _ _ _ _ hh
    · unfold M.setH
      rw [encH_set H k n hk, Array.toList_setIfInBounds, List.length_set, List.take_set, hx]
    · intro y hy
      rcases List.mem_or_eq_of_mem_set hy with hy | rfl
      · exact hsm y hy
      · exact hsm (H.getD k M.hd0) (by simp [List.getD, hk])
    · rw [World.ownsRow.cellAt h40 (k * 2 + 1) (by omega), encH_at H k hk]
theorem OwnCo.lower {w : World} {base base' : Nat} {p : Value × Value} {c : M.Com} (h : OwnCo w base p c) (hb : base' ≤ base) : OwnCo w base' p c := ⟨ownsRow_lower h.1 hb, ownsRow_lower h.2.1 hb, h.2.2⟩
/-- .. to which a commit is appended. -/
theorem boxed_grown {w w' : World} {B Bx D : Nat} {x x' y : Value} {C : List M.Com} {c : M.Com} {q : Value × Value} {H : List M.Hd} {vals : List (Value × Value)} (hB : B ≤ Bx) (hBw : Bx ≤ w.heap.size) (blk : w.heap[D]? = some (.cells #[x, y] 25 (0, 0))) (hH : OwnH w Bx y H) (tmp : Obj) (hl : vals.length = C.length) (h1 : w.ownsRow Bx 51 2 x C.length (encP vals)) (h2 : ∀ i, i < C.length → OwnCo w Bx (vals.getD i vp0) (C.getD i ([], [])))
    (hq : OwnCo w B q c) (h3 : w'.ownsRow Bx 51 2 x' (C.length + 1) (encP vals ++ [q.1, q.2])) (hg : (w.alloc tmp).grownBy w' x.ownBlock) :
    OwnK (w'.setCell ⟨D, 0, none⟩ x') B x' (C ++ [c]) ∧ OwnH (w'.setCell ⟨D, 0, none⟩ x') B y H ∧ (w'.setCell ⟨D, 0, none⟩ x').heap[D]? = some (.cells #[x', y] 25 (0, 0)) ∧ w'.heap[D]? = some (.cells #[x, y] 25 (0, 0)) ∧ Below Bx w w' := by
  have hlt := (Array.getElem?_eq_some_iff.1 blk).1
  have typ : ∀ r, x.ownBlock = some r → ∃ cur, (w.alloc tmp).heap[r]? = some (.cells cur 51 (0, 0)) := by
    intro r e
    rcases (h1.alloc tmp).2 with ⟨rfl, _⟩ | ⟨g, cap, cur', rfl, _, hgb, _⟩
    · simp [Value.ownBlock] at e
    · obtain rfl : g = r := by simpa [Value.ownBlock] using e
      exact ⟨_, hgb⟩
  have other : ∀ e, e ≠ 51 → ∀ r, x.ownBlock = some r → ∀ cur, (w.alloc tmp).heap[r]? ≠ some (.cells cur e (0, 0)) := by
    intro e he r hr cur hc
    obtain ⟨cur', hcur⟩ := typ r hr
    rw [hcur] at hc
    simp at hc
    exact he hc.2.symm
  have hDa : (w.alloc tmp).heap[D]? = some (.cells #[x, y] 25 (0, 0)) := by rw [Below.heap_alloc _ _ _ hlt]; exact blk
  have hne : x.ownBlock ≠ some D := fun e => other _ (by decide) D e _ hDa
  have hbk : w'.heap[D]? = some (.cells #[x, y] 25 (0, 0)) := by
    rw [hg.block D (by simp; omega) (fun e => hne e.symm)]; exact hDa
  have b1 : Below Bx w w' := ((Below.refl _ _).alloc hBw tmp).grown hg (by simp; omega) (fun k e => (World.ownsRow.lt h1 k e).1)
  have hba : Below w.heap.size w (w.alloc tmp) := (Below.refl _ _).alloc (Nat.le_refl _) _
  have K' : OwnK w' B x' (C ++ [c]) := OwnK.append hl (ownsRow_lower (h1.alloc tmp) hB) (fun i hi => ((h2 i hi).lower hB).later hba) (hq.later hba) (ownsRow_lower h3 hB) hg
  have g2 := grownBy_set w' ⟨D, 0, none⟩ x'
  refine ⟨K'.elsewhere g2 hbk (by decide) (by decide) (by decide), (OwnH.elsewhere ⟨ownsRow_elsewhere (hH.later hba).1 hg (other _ (by decide)), hH.2⟩ g2 hbk (by decide)).lower hB, ?_, hbk, b1⟩
  rw [heap_setCell_same _ _ _ _ _ _ hbk]; rfl

set_option maxRecDepth 100000 in
set_option maxHeartbeats 8000000 in
theorem grown_any (a : Option Addr) (n cap : Nat) (C : List M.Com) (a2 : Option Addr) (n2 cap2 : Nat) (H : List M.Hd) (k : Nat) (ra pa : Option Addr) (rn rc pn pc : Nat) (c : M.Com) (B : Nat) (w : World) (hV : RepoV w a n cap C a2 n2 cap2 H) (hz : M.rchk C H = 0) (hk : k < H.length) (hB : B ≤ w.heap.size) (hq : OwnCo w B (.slice ra rn rc, .slice pa pn pc) c) :
    Calls Tryz.prog 100 #[.agg #[.slice a n cap, .slice a2 n2 cap2], .int .i64 (k : Int), .slice ra rn rc, .slice pa pn pc] w fun e w' => ∃ v, e = .returned v ∧ RepoOwn w' B v (C ++ [c]) (M.setH H k C.length) ∧ Below w.heap.size w w' := by
  obtain ⟨i1, hi1, hy0, hy1, hy2⟩ := info_parts infoCommit
  obtain ⟨p, hp⟩ : ∃ p, p = w.heap.size := ⟨_, rfl⟩
  obtain ⟨W, hW⟩ : ∃ W, W = (w.alloc (.cells #[.slice a n cap, .slice a2 n2 cap2] 25)).alloc (.cells #[.slice none 0 0, .slice none 0 0] 25) := ⟨_, rfl⟩
  have hb : Below w.heap.size w W := by rw [hW]; exact ((Below.refl _ _).alloc (Nat.le_refl _) _).alloc (by simp) _
  have hsz : W.heap.size = p + 2 := by rw [hW, hp]; simp
  have q2 : W.heap[p + 1]? = some (.cells #[.slice none 0 0, .slice none 0 0] 25 (0, 0)) := by
    rw [hW, show p + 1 = (w.alloc (.cells #[.slice a n cap, .slice a2 n2 cap2] 25)).heap.size by rw [hp]; simp]
    exact heap_alloc_new _ _
  have KO : Hid (Calls Tryz.prog 103 #[.agg #[.slice a n cap, .slice a2 n2 cap2]] W fun e w' => ∃ v, e = .returned v ∧ RepoOwn w' W.heap.size v C H ∧ Below W.heap.size W w') := ownRepo_any a n cap C a2 n2 cap2 H W (hV.later hb) hz
  have HQ : Hid (OwnCo W B (.slice ra rn rc, .slice pa pn pc) c) := hq.later hb
  have HQ2 : Hid (W.heap[p + 1]? = some (.cells #[.slice none 0 0, .slice none 0 0] 25 (0, 0))) := q2
  have hC14 : C.length ≤ 14 := (M.dchk_zero (M.rchk_zero hz).1).1
  have HW : Hid (W = (w.alloc (.cells #[.slice a n cap, .slice a2 n2 cap2] 25)).alloc (.cells #[.slice none 0 0, .slice none 0 0] 25)) := hW
  have HP : Aside (p = w.heap.size) := hp
  have HSz : Aside (W.heap.size = p + 2) := hsz
  clear hW hp hV hz hq q2 hsz
  go_enter Tryz.func100, Tryz.ntmps100
  go_wp2_with fail
  rw [← HW.out, ← HP.out]
  refine KO.out.mono ?_
  rintro e w1 ⟨v, rfl, ⟨x, y, rfl, ok, oh⟩, b1⟩
  obtain ⟨xa, xc, rfl, _⟩ := ok.cm
  obtain ⟨g, yc, rfl⟩ : ∃ g yc, y = .slice (some ⟨g, 0, none⟩) H.length yc := by
    rcases oh.1.2 with ⟨e, e2⟩ | ⟨g, cap, _, e, _⟩
    · omega
    · exact ⟨g, cap, e⟩
  obtain ⟨D, hD⟩ : ∃ D, D = w1.heap.size := ⟨_, rfl⟩
  obtain ⟨m, hm⟩ : ∃ m, m = C.length := ⟨_, rfl⟩
  obtain ⟨mh, hmh⟩ : ∃ mh, mh = H.length := ⟨_, rfl⟩
  obtain ⟨W2, hW2⟩ : ∃ W2, W2 = w1.alloc (.cells #[.slice xa m xc, .slice (some ⟨g, 0, none⟩) mh yc] 25) := ⟨_, rfl⟩
  have bW2 : Below w1.heap.size w1 W2 := by rw [hW2]; exact (Below.refl _ _).alloc (Nat.le_refl _) _
  have blk : W2.heap[D]? = some (.cells #[.slice xa m xc, .slice (some ⟨g, 0, none⟩) mh yc] 25 (0, 0)) := by rw [hW2, hD]; exact heap_alloc_new _ _
  have b2 : Below W.heap.size W W2 := b1.trans (bW2.mono b1.size)
  obtain ⟨vals, hl, hrow, hel⟩ := ok.later bW2
  rw [← hm] at hrow
  have oh2 := oh.later bW2
  have k0 : W2.cell? ⟨D, 0, none⟩ = some (.slice xa m xc) := by rw [cell_of_row _ _ _ _ _ _ blk]; rfl
  have hDs : D < W2.heap.size := (Array.getElem?_eq_some_iff.1 blk).1
  have HRA : Hid ((W2.alloc (.cells #[.slice ra rn rc, .slice pa pn pc] 51)).ownsRow W.heap.size 51 2 (.slice xa m xc) m (encP vals)) := hrow.alloc _
  have hWD : W.heap.size ≤ D := by rw [hD]; exact b1.size
  have hBW : B ≤ W.heap.size := Nat.le_trans hB hb.size
  have HPut : Hid (∀ x' w', w'.ownsRow W.heap.size 51 2 x' (m + 1) (encP vals ++ [.slice ra rn rc, .slice pa pn pc]) → (W2.alloc (.cells #[.slice ra rn rc, .slice pa pn pc] 51)).grownBy w' (Value.slice xa m xc).ownBlock → OwnK (w'.setCell ⟨D, 0, none⟩ x') B x' (C ++ [c]) ∧ OwnH (w'.setCell ⟨D, 0, none⟩ x') B (.slice (some ⟨g, 0, none⟩) mh yc) H ∧ (w'.setCell ⟨D, 0, none⟩ x').heap[D]? = some (.cells #[x', .slice (some ⟨g, 0, none⟩) mh yc] 25 (0, 0)) ∧ w'.heap[D]? = some (.cells #[.slice xa m xc, .slice (some ⟨g, 0, none⟩) mh yc] 25 (0, 0)) ∧ Below W.heap.size W2 w') := fun x' w' h3 hg =>
    boxed_grown (q := (.slice ra rn rc, .slice pa pn pc)) hBW b2.size blk (by rw [hmh]; exact oh2) _ hl (by rw [← hm]; exact hrow) hel (HQ.out.later b2) (by rw [← hm]; exact h3) hg
  rw [← hm, ← hmh]
  have hgW : W.heap.size ≤ g := (World.ownsRow.lt oh.1 g rfl).1
  have hkm : k < mh := by rw [hmh]; exact hk
  have HM : Aside (m = C.length) := hm
  have HMh : Aside (mh = H.length) := hmh
  have HW2 : Hid (W2 = w1.alloc (.cells #[.slice xa m xc, .slice (some ⟨g, 0, none⟩) mh yc] 25)) := hW2
  have HD : Aside (D = w1.heap.size) := hD
  have hm14 : m ≤ 14 := by rw [hm]; exact hC14
  have HCN : Hid (∀ j u, [Value.slice ra rn rc, .slice pa pn pc][j]? = some u → (W2.alloc (.cells #[.slice ra rn rc, .slice pa pn pc] 51)).cell? ((⟨w1.heap.size + 1, 0, none⟩ : Addr).add j) = some u) := by
    unfold Hid
    rw [show w1.heap.size + 1 = W2.heap.size by rw [hW2]; simp]
    exact cell_pair_new _ _ _ _
  have HBs : Hid (W.heap.size ≤ (W2.alloc (.cells #[.slice ra rn rc, .slice pa pn pc] 51)).heap.size) := by have := b2.size; unfold Hid; simp; omega
  clear hW2 hD ok oh oh2 blk hl hrow hel hm hmh b1 bW2 KO
  go_wp2_with (at_builtin; refine wpList_append_own _ rfl _ _ 22 rfl W.heap.size 51 i1 (.agg #[.slice none 0 0, .slice none 0 0]) 2 48 Tryz.underlying22 hi1 hy0 hy1 hy2 rfl (by decide) _ m (encP vals) rfl (by rw [← HW2.out]; exact HRA.out) ⟨w1.heap.size + 1, 0, none⟩ 1 1 [.slice ra rn rc, .slice pa pn pc] rfl rfl (by rw [← HW2.out]; exact HCN.out) (by simp [Value.oneCell']) (by simp only [maxLen]; omega) (by omega) (by rw [← HW2.out]; exact HBs.out) ?_)
  rw [← HW2.out, ← HD.out]
  intro v' w3 h6 h7 _
  obtain ⟨g', cap', rfl⟩ := ownsRow_succ h6
  obtain ⟨P1, P2, P3, P4, P5⟩ := HPut.out _ w3 h6 h7
  have k3 : w3.cell? ⟨D, 0, none⟩ = some (.slice xa m xc) := by rw [cell_of_row _ _ _ _ _ _ P4]; rfl
  have f3 : w3.frozen? ⟨D, 0, none⟩ = false := frozen_of_row _ _ _ _ _ P4
  obtain ⟨W4, hW4⟩ : ∃ W4, W4 = w3.setCell ⟨D, 0, none⟩ (.slice (some ⟨g', 0, none⟩) (m + 1) cap') := ⟨_, rfl⟩
  rw [← hW4] at P1 P2 P3
  rw [HMh.out] at P2 P3
  obtain ⟨Q1, Q2, Q3, Q4, Q5, Q6⟩ := boxed_moved (k := k) ((m : Nat) : Int) P3 P1 P2 hk
  rw [← HMh.out] at Q1 Q3 P3
  obtain ⟨W5, hW5⟩ : ∃ W5, W5 = W4.setCell ⟨g, k * 2 + 1, none⟩ (.int .i64 (m : Int)) := ⟨_, rfl⟩
  rw [← hW5] at Q1 Q2 Q3
  have b4 : Below W.heap.size W W4 := by rw [hW4]; exact (b2.trans P5).setCell (p := ⟨D, 0, none⟩) hWD _
  have b5 : Below W.heap.size W W5 := by rw [hW5]; exact b4.setCell (p := ⟨g, k * 2 + 1, none⟩) hgW _
  have d0 : W4.cell? ⟨D, 0, none⟩ = some (.slice (some ⟨g', 0, none⟩) (m + 1) cap') := by rw [cell_of_row _ _ _ _ _ _ P3]; rfl
  have d1 : W4.cell? ⟨D, 1, none⟩ = some (.slice (some ⟨g, 0, none⟩) mh yc) := by rw [cell_of_row _ _ _ _ _ _ P3]; rfl
  have e0 : W5.cell? ⟨D, 0, none⟩ = some (.slice (some ⟨g', 0, none⟩) (m + 1) cap') := by rw [cell_of_row _ _ _ _ _ _ Q1]; rfl
  have e1 : W5.cell? ⟨D, 1, none⟩ = some (.slice (some ⟨g, 0, none⟩) mh yc) := by rw [cell_of_row _ _ _ _ _ _ Q1]; rfl
  have r2 : W5.heap[p + 1]? = some (.cells #[.slice none 0 0, .slice none 0 0] 25 (0, 0)) := (b5.block (p + 1) (by have := HSz.out; omega)).trans HQ2.out
  have hbw : Below w.heap.size w W5 := hb.trans (b5.mono hb.size)
  have HRO : Aside (RepoOwn ((W5.setCell ⟨p + 1, 0, none⟩ (.slice (some ⟨g', 0, none⟩) (m + 1) cap')).setCell ⟨p + 1, 1, none⟩ (.slice (some ⟨g, 0, none⟩) mh yc)) B (.agg #[.slice (some ⟨g', 0, none⟩) (m + 1) cap', .slice (some ⟨g, 0, none⟩) mh yc]) (C ++ [c]) (M.setH H k C.length)) := by rw [← HM.out]; exact repoOwn_set r2 Q2 Q3
  obtain ⟨g1, g2, g3⟩ := res_set r2 (.slice (some ⟨g', 0, none⟩) (m + 1) cap') (.slice (some ⟨g, 0, none⟩) mh yc)
  obtain ⟨X, hX⟩ : ∃ X, X = (W5.setCell ⟨p + 1, 0, none⟩ (.slice (some ⟨g', 0, none⟩) (m + 1) cap')).setCell ⟨p + 1, 1, none⟩ (.slice (some ⟨g, 0, none⟩) mh yc) := ⟨_, rfl⟩
  rw [← hX] at g1 HRO
  have bX : Below w.heap.size w X := by rw [hX]; exact (hbw.setCell (p := ⟨p + 1, 0, none⟩) (by show _ ≤ p + 1; have := HP.out; omega) _).setCell (p := ⟨p + 1, 1, none⟩) (by show _ ≤ p + 1; have := HP.out; omega) _
  have HX9 : Hid (X = (W5.setCell ⟨p + 1, 0, none⟩ (.slice (some ⟨g', 0, none⟩) (m + 1) cap')).setCell ⟨p + 1, 1, none⟩ (.slice (some ⟨g, 0, none⟩) mh yc)) := hX
  have HW4 : Hid (W4 = w3.setCell ⟨D, 0, none⟩ (.slice (some ⟨g', 0, none⟩) (m + 1) cap')) := hW4
  have HW5 : Hid (W5 = W4.setCell ⟨g, k * 2 + 1, none⟩ (.int .i64 (m : Int))) := hW5
  have HX0 : Aside (X.cell? ⟨p + 1, 0, none⟩ = some (.slice (some ⟨g', 0, none⟩) (m + 1) cap')) := by unfold Aside; rw [cell_of_row _ _ _ _ _ _ g1]; rfl
  have HX1 : Aside (X.cell? ⟨p + 1, 1, none⟩ = some (.slice (some ⟨g, 0, none⟩) mh yc)) := by unfold Aside; rw [cell_of_row _ _ _ _ _ _ g1]; rfl
  have HQ4 : Hid (W4.frozen? ⟨g, k * 2 + 1, none⟩ = false) := Q4
  have HQ6 : Hid (W4.cell? ⟨g, k * 2 + 1, none⟩ = some (.int .i64 (H.getD k M.hd0).2)) := Q6
  have HE : Hid (W5.cell? ⟨D, 0, none⟩ = some (.slice (some ⟨g', 0, none⟩) (m + 1) cap') ∧ W5.cell? ⟨D, 1, none⟩ = some (.slice (some ⟨g, 0, none⟩) mh yc)) := ⟨e0, e1⟩
  have HR2 : Hid (W5.heap[p + 1]? = some (.cells #[.slice none 0 0, .slice none 0 0] 25 (0, 0))) := r2
  have HDD : Hid (W4.cell? ⟨D, 0, none⟩ = some (.slice (some ⟨g', 0, none⟩) (m + 1) cap') ∧ W4.cell? ⟨D, 1, none⟩ = some (.slice (some ⟨g, 0, none⟩) mh yc)) := ⟨d0, d1⟩
  have hmw : IntKind.i64.wrap (((m + 1 : Nat) : Int) - 1) = (m : Int) := by rw [IntKind.wrap_i64]; omega
  have hki : (k : Int) < (mh : Int) := by omega
  have d0' := HDD.out.1
  have d1' := HDD.out.2
  have q4' := HQ4.out
  have q6' := HQ6.out
  rw [hW4] at d0' d1' q4' q6'
  have e0' := HE.out.1
  have e1' := HE.out.2
  rw [hW5, hW4] at e0' e1'
  have x0' : W5.cell? ⟨p + 1, 0, none⟩ = some (.slice none 0 0) := by rw [cell_of_row _ _ _ _ _ _ r2]; rfl
  have x1' : W5.cell? ⟨p + 1, 1, none⟩ = some (.slice none 0 0) := by rw [cell_of_row _ _ _ _ _ _ r2]; rfl
  have f0' : W5.frozen? ⟨p + 1, 0, none⟩ = false := frozen_of_row _ _ _ _ _ r2
  have f1' : W5.frozen? ⟨p + 1, 1, none⟩ = false := frozen_of_row _ _ _ _ _ r2
  rw [hW5, hW4] at x0' x1' f0' f1'
  clear P1 P2 P3 P4 P5 Q1 Q2 Q3 Q4 Q5 Q6 h6 h7 hW4 hW5 hX g1 g2 g3 d0 d1 e0 e1 r2 HPut HRA HCN HBs k0 b2 b4 b5
  go_wp2_with fail
  rw [← HW4.out, ← HW5.out, ← HX9.out]
  have y0 := HX0.out
  have y1 := HX1.out
  refine bodyPost_ret (v := .agg #[.slice (some ⟨g', 0, none⟩) (m + 1) cap', .slice (some ⟨g, 0, none⟩) mh yc]) (by simp [results, Tryz.results100, go_sem, y0, y1]) rfl ?_
  exact ⟨_, rfl, HRO.out, bX⟩
end Go.Proofs.YtcgpgflnihjpiafGreat

/- The reference on commits: CommitsError. -/
namespace Go.Proofs.YtcgpgflnihjpiafGreat
namespace M
theorem pr_ref (c : Nat) (ps : List Int) : pr c ps = true ↔ ps.length ≤ 2 ∧ (ps.length = 2 → ps.getD 0 0 < ps.getD 1 0) ∧ ∀ p ∈ ps, 0 ≤ p ∧ p < (c : Int) := by
  match ps with
  | [] => simp [pr, ris]
  | [a] => simp [pr, ris]; omega
  | [a, b] => simp [pr, ris]; omega
  | a :: b :: d :: t => simp [pr]
end M
open Go.RowKit

theorem cerror_many (a : Option Addr) (n cap : Nat) (w : World) (h : 14 < n) (hm : n ≤ 9223372036854775807) :
    Calls Tryz.prog 149 #[.slice a n cap] w fun e w' => e = .returned (.int .i64 2) ∧ w' = w := by
  go_enter Tryz.func149, Tryz.ntmps149
  go_wp2
  go_ret
  exact ⟨rfl, rfl⟩
theorem cerror_none (a : Option Addr) (cap : Nat) (w : World) :
    Calls Tryz.prog 149 #[.slice a 0 cap] w fun e w' => e = .returned (.int .i64 0) ∧ w' = w := by
  go_enter Tryz.func149, Tryz.ntmps149
  go_wp2
  refine wp_loop_rounds 1 ?_
  rw [rounds_succ]
  go_wp2
  go_ret
  exact ⟨rfl, rfl⟩

set_option maxHeartbeats 8000000 in
theorem cerror_some (b off n cap : Nat) (L : List M.Com) (w : World) (hn : n ≤ 14) (hl : L.length = n) (hB : b < w.heap.size)
    (hc : ∀ i, i < n → ∃ a1 n1 c1 a2 n2 c2, w.cell? ⟨b, off + i * 2, none⟩ = some (.slice a1 n1 c1) ∧ w.cell? ⟨b, off + i * 2 + 1, none⟩ = some (.slice a2 n2 c2) ∧ Rd w a1 n1 (L.getD i ([], [])).1 ∧ Ri w a2 n2 (L.getD i ([], [])).2 ∧ n1 ≤ 9223372036854775807 ∧ n2 ≤ 9223372036854775807) :
    Calls Tryz.prog 149 #[.slice (some ⟨b, off, none⟩) n cap] w fun e w' => e = .returned (.int .i64 (M.dchkF 0 L)) ∧ Below w.heap.size w w' := by
  have HC : Aside (∀ i, i < n → ∃ a1 n1 c1 a2 n2 c2, w.cell? ⟨b, off + i * 2, none⟩ = some (.slice a1 n1 c1) ∧ w.cell? ⟨b, off + i * 2 + 1, none⟩ = some (.slice a2 n2 c2) ∧ Rd w a1 n1 (L.getD i ([], [])).1 ∧ Ri w a2 n2 (L.getD i ([], [])).2 ∧ n1 ≤ 9223372036854775807 ∧ n2 ≤ 9223372036854775807) := hc
  have HL : Aside (L.length = n) := hl
  clear hc hl
  go_enter Tryz.func149, Tryz.ntmps149
  go_wp2
  go_loopg [3] n (fun g i wr => ∃ (k : Nat), k + g = n ∧ i = .int .i64 k ∧ Below w.heap.size w wr ∧ Aside (M.dchkF k (L.drop k) = M.dchkF 0 L))
  case atStart => exact ⟨0, by omega, rfl, Below.refl _ _, by simp [Aside]⟩
  case round =>
    obtain ⟨k, hk, rfl, hbel, A⟩ := hrel
    have hsz := hbel.size
    by_cases hlt : k < n
    · obtain ⟨a1, n1, c1, a2, n2, c2, q1, q2, r1, r2, m1, m2⟩ := HC.out k hlt
      obtain ⟨C, hC⟩ : ∃ C, L.getD k ([], []) = C := ⟨_, rfl⟩
      rw [hC] at r1 r2
      have c0 : wr.cell? ⟨b, off + k * 2, none⟩ = some (.slice a1 n1 c1) := (hbel.cell (p := ⟨b, off + k * 2, none⟩) hB).trans q1
      have HCh := error_any a1 n1 c1 C.1 wr (r1.below hbel (Nat.le_refl _)) m1
      have HX : Aside (L.getD k ([], []) = C) := hC
      have H2 : Hid (Ri w a2 n2 C.2) := r2
      have Q2 : Hid (w.cell? ⟨b, off + k * 2 + 1, none⟩ = some (.slice a2 n2 c2)) := q2
      have hki : (k : Int) < (n : Int) := by omega
      clear hC r1 r2 q1 q2
      obtain ⟨e1, he1⟩ : ∃ e1, e1 = M.chk C.1 := ⟨_, rfl⟩
      rw [← he1] at HCh
      have HE1 : Hid (e1 = M.chk C.1) := he1
      have HH : Hid (Calls Tryz.prog 126 #[.slice a1 n1 c1] wr fun e w' => e = .returned (.int .i64 e1) ∧ Below wr.heap.size wr w') := HCh
      clear he1 HCh
      by_cases hz : e1 = 0
      · have hne : (e1 != 0) = false := by simp [hz]
        have HZ : Hid (e1 = 0) := hz
        clear hz
        go_wp2_with fail
        refine HH.out.mono ?_
        rintro e w1 ⟨rfl, hb1⟩
        have hb2 : Below w.heap.size w w1 := hbel.trans (hb1.mono hbel.size)
        have c5 : w1.cell? ⟨b, off + k * 2 + 1, none⟩ = some (.slice a2 n2 c2) := (hb2.cell (p := ⟨b, off + k * 2 + 1, none⟩) hB).trans Q2.out
        clear hb1 HH c0
        by_cases hn2 : 2 < n2
        · have hd : decide ((2 : Int) < (n2 : Int)) = true := by simp; omega
          have hd' : decide (2 < n2) = true := by simp; omega
          have HF : Aside (M.pr k C.2 = false) := M.pr_long k C.2 (by rw [H2.out.1]; exact hn2)
          go_wp2_with fail
          go_quiet (fail)
          go_wp2
          go_ret
          exact ⟨ret_int (A.out.symm.trans (M.dchkF_form k L (by rw [HL.out]; exact hlt) C HX.out (by rw [← HE1.out]; exact HZ.out) HF.out)).symm, below_drewN hb2 _⟩
        · have hd : decide ((2 : Int) < (n2 : Int)) = false := by simp; omega
          have hd' : decide (2 < n2) = false := by simp; omega
          by_cases h2 : n2 = 2
          · subst h2
            obtain ⟨pb, po, rfl, hpB, hpc⟩ : ∃ pb po, a2 = some ⟨pb, po, none⟩ ∧ pb < w.heap.size ∧ ∀ i, i < 2 → w.cell? ⟨pb, po + i, none⟩ = some (.int .i64 (C.2.getD i 0)) := by
              rcases H2.out.cases with ⟨h0, _⟩ | ⟨pb, po, e, _, _, hpB, hpc⟩
              · omega
              · exact ⟨pb, po, e, hpB, hpc⟩
            obtain ⟨x0, hx0⟩ : ∃ x, C.2.getD 0 0 = x := ⟨_, rfl⟩
            obtain ⟨x1, hx1⟩ : ∃ x, C.2.getD 1 0 = x := ⟨_, rfl⟩
            have p0 : w1.cell? ⟨pb, po, none⟩ = some (.int .i64 x0) := by rw [hb2.cell (p := ⟨pb, po, none⟩) hpB]; have := hpc 0 (by omega); rw [hx0] at this; exact this
            have p1 : w1.cell? ⟨pb, po + 1, none⟩ = some (.int .i64 x1) := by rw [hb2.cell (p := ⟨pb, po + 1, none⟩) hpB]; have := hpc 1 (by omega); rw [hx1] at this; exact this
            have HX0 : Aside (C.2.getD 0 0 = x0) := hx0
            have HX1 : Aside (C.2.getD 1 0 = x1) := hx1
            have HPC : Aside (∀ i, i < 2 → w.cell? ⟨pb, po + i, none⟩ = some (.int .i64 (C.2.getD i 0))) := hpc
            clear hpc hx0 hx1 hd hd' hn2
            by_cases hge : x1 ≤ x0
            · have hdg : decide (x1 ≤ x0) = true := by simp [hge]
              have HF : Aside (M.pr k C.2 = false) := by
                unfold Aside
                by_cases hp : M.pr k C.2 = true
                · have h9 := ((M.pr_ref k C.2).1 hp).2.1 H2.out.1
                  rw [HX0.out, HX1.out] at h9
                  omega
                · simpa using hp
              go_wp2_with fail
              go_quiet (fail)
              go_wp2
              go_ret
              exact ⟨ret_int (A.out.symm.trans (M.dchkF_form k L (by rw [HL.out]; exact hlt) C HX.out (by rw [← HE1.out]; exact HZ.out) HF.out)).symm, below_drewN hb2 _⟩
            · have hdg : decide (x1 ≤ x0) = false := by simp; omega
              have HOrd : Aside (C.2.getD 0 0 < C.2.getD 1 0) := by unfold Aside; rw [HX0.out, HX1.out]; omega
              go_wp2_with fail
              go_quiet (fail)
              go_wp2
              go_loopg [6] 2 (fun g2 i ws => ∃ j : Nat, j + g2 = 2 ∧ i = .int .i64 j ∧ Below w.heap.size w ws ∧ Aside (∀ p ∈ C.2.take j, 0 ≤ p ∧ p < (k : Int)))
              case atStart => exact ⟨0, by omega, rfl, below_drewN hb2 _, by simp [Aside]⟩
              case round =>
                obtain ⟨j, hj, rfl, hb3, HIn⟩ := hrel
                by_cases hjl : j < 2
                · have hpc := HPC.out
                  obtain ⟨x, hx⟩ : ∃ x, C.2.getD j 0 = x := ⟨_, rfl⟩
                  have cx : wr.cell? ⟨pb, po + j, none⟩ = some (.int .i64 x) := by rw [hb3.cell (p := ⟨pb, po + j, none⟩) hpB, hpc j hjl, hx]
                  have HXm : Aside (x ∈ C.2) := by unfold Aside; rw [← hx]; have h2 := H2.out.1; simp [List.getD, h2, hjl]
                  have HTk : Aside (C.2.take (j + 1) = C.2.take j ++ [x]) := by unfold Aside; rw [List.take_succ_eq_append_getElem (by rw [H2.out.1]; exact hjl), ← hx]; have h2 := H2.out.1; simp [List.getD, h2, hjl]
                  clear hx hpc
                  have hji : (j : Int) < 2 := by omega
                  by_cases hw : 0 ≤ x ∧ x < (k : Int)
                  · have HW : Hid (∀ W, Calls Tryz.prog 64 #[.int .i64 x, .int .i64 0, .int .i64 ((k : Int) - 1)] W fun e w' => e = .returned (.bool true) ∧ w' = W) := fun W => within_yes x 0 ((k : Int) - 1) W hw.1 (by omega)
                    have HIn' : Aside (∀ p ∈ C.2.take (j + 1), 0 ≤ p ∧ p < (k : Int)) := by
                      intro p hp
                      rw [HTk.out] at hp
                      rcases List.mem_append.1 hp with hp | hp
                      · exact HIn.out p hp
                      · have : p = x := by simpa using hp
                        rw [this]; exact hw
                    clear hw
                    go_wp2_with fail
                    refine (HW.out _).mono ?_
                    rintro e w4 ⟨rfl, hw4⟩
                    subst hw4
                    go_wp2
                    go_roundg (gk - 1)
                    case measure => omega
                    case rel => exact ⟨j + 1, by omega, by go_num, hb3, HIn'⟩
                  · have HW : Hid (∀ W, Calls Tryz.prog 64 #[.int .i64 x, .int .i64 0, .int .i64 ((k : Int) - 1)] W fun e w' => e = .returned (.bool false) ∧ w' = W) := fun W => within_no x 0 ((k : Int) - 1) W (by omega)
                    have HF : Aside (M.pr k C.2 = false) := by
                      unfold Aside
                      by_cases hp : M.pr k C.2 = true
                      · exact absurd (((M.pr_ref k C.2).1 hp).2.2 x HXm.out) hw
                      · simpa using hp
                    clear hw
                    go_wp2_with fail
                    refine (HW.out _).mono ?_
                    rintro e w4 ⟨rfl, hw4⟩
                    subst hw4
                    go_wp2
                    go_ret
                    exact ⟨ret_int (A.out.symm.trans (M.dchkF_form k L (by rw [HL.out]; exact hlt) C HX.out (by rw [← HE1.out]; exact HZ.out) HF.out)).symm, hb3⟩
                · obtain rfl : j = 2 := by omega
                  have HT : Aside (M.pr k C.2 = true) := by
                    refine (M.pr_ref k C.2).2 ⟨by rw [H2.out.1]; omega, fun hl2 => HOrd.out, fun p hp => HIn.out p ?_⟩
                    rw [List.take_of_length_le (by rw [H2.out.1]; exact Nat.le_refl _)]; exact hp
                  go_wp2
                  go_roundg (n - (k + 1))
                  case measure => omega
                  case rel => exact ⟨k + 1, by omega, by go_num, hb3, by unfold Aside; rw [← A.out, M.dchkF_good k L (by rw [HL.out]; exact hlt) C HX.out (by rw [← HE1.out]; exact HZ.out) HT.out]⟩
          · have hdb : ((n2 : Int) == 2) = false := by simp; omega
            go_wp2_with fail
            go_quiet (fail)
            go_wp2
            go_loopg [6] n2 (fun g2 i ws => ∃ j : Nat, j + g2 = n2 ∧ i = .int .i64 j ∧ Below w.heap.size w ws ∧ Aside (∀ p ∈ C.2.take j, 0 ≤ p ∧ p < (k : Int)))
            case atStart => exact ⟨0, by omega, rfl, below_drewN hb2 _, by simp [Aside]⟩
            case round =>
              obtain ⟨j, hj, rfl, hb3, HIn⟩ := hrel
              by_cases hjl : j < n2
              · obtain ⟨pb, po, rfl, hpB, hpc⟩ : ∃ pb po, a2 = some ⟨pb, po, none⟩ ∧ pb < w.heap.size ∧ ∀ i, i < n2 → w.cell? ⟨pb, po + i, none⟩ = some (.int .i64 (C.2.getD i 0)) := by
                  rcases H2.out.cases with ⟨h0, _⟩ | ⟨pb, po, e, _, _, hpB, hpc⟩
                  · omega
                  · exact ⟨pb, po, e, hpB, hpc⟩
                obtain ⟨x, hx⟩ : ∃ x, C.2.getD j 0 = x := ⟨_, rfl⟩
                have cx : wr.cell? ⟨pb, po + j, none⟩ = some (.int .i64 x) := by rw [hb3.cell (p := ⟨pb, po + j, none⟩) hpB, hpc j hjl, hx]
                have HXm : Aside (x ∈ C.2) := by unfold Aside; rw [← hx]; have h2 := H2.out.1; simp [List.getD, h2, hjl]
                have HTk : Aside (C.2.take (j + 1) = C.2.take j ++ [x]) := by unfold Aside; rw [List.take_succ_eq_append_getElem (by rw [H2.out.1]; exact hjl), ← hx]; have h2 := H2.out.1; simp [List.getD, h2, hjl]
                clear hx hpc
                have hji : (j : Int) < (n2 : Int) := by omega
                by_cases hw : 0 ≤ x ∧ x < (k : Int)
                · have HW : Hid (∀ W, Calls Tryz.prog 64 #[.int .i64 x, .int .i64 0, .int .i64 ((k : Int) - 1)] W fun e w' => e = .returned (.bool true) ∧ w' = W) := fun W => within_yes x 0 ((k : Int) - 1) W hw.1 (by omega)
                  have HIn' : Aside (∀ p ∈ C.2.take (j + 1), 0 ≤ p ∧ p < (k : Int)) := by
                    intro p hp
                    rw [HTk.out] at hp
                    rcases List.mem_append.1 hp with hp | hp
                    · exact HIn.out p hp
                    · have : p = x := by simpa using hp
                      rw [this]; exact hw
                  clear hw
                  go_wp2_with fail
                  refine (HW.out _).mono ?_
                  rintro e w4 ⟨rfl, hw4⟩
                  subst hw4
                  go_wp2
                  go_roundg (gk - 1)
                  case measure => omega
                  case rel => exact ⟨j + 1, by omega, by go_num, hb3, HIn'⟩
                · have HW : Hid (∀ W, Calls Tryz.prog 64 #[.int .i64 x, .int .i64 0, .int .i64 ((k : Int) - 1)] W fun e w' => e = .returned (.bool false) ∧ w' = W) := fun W => within_no x 0 ((k : Int) - 1) W (by omega)
                  have HF : Aside (M.pr k C.2 = false) := by
                    unfold Aside
                    by_cases hp : M.pr k C.2 = true
                    · exact absurd (((M.pr_ref k C.2).1 hp).2.2 x HXm.out) hw
                    · simpa using hp
                  clear hw
                  go_wp2_with fail
                  refine (HW.out _).mono ?_
                  rintro e w4 ⟨rfl, hw4⟩
                  subst hw4
                  go_wp2
                  go_ret
                  exact ⟨ret_int (A.out.symm.trans (M.dchkF_form k L (by rw [HL.out]; exact hlt) C HX.out (by rw [← HE1.out]; exact HZ.out) HF.out)).symm, hb3⟩
              · obtain rfl : j = n2 := by omega
                have HT : Aside (M.pr k C.2 = true) := by
                  refine (M.pr_ref k C.2).2 ⟨by rw [H2.out.1]; omega, fun hl2 => absurd (H2.out.1.symm.trans hl2) h2, fun p hp => HIn.out p ?_⟩
                  rw [List.take_of_length_le (by rw [H2.out.1]; exact Nat.le_refl _)]; exact hp
                go_wp2
                go_roundg (n - (k + 1))
                case measure => omega
                case rel => exact ⟨k + 1, by omega, by go_num, hb3, by unfold Aside; rw [← A.out, M.dchkF_good k L (by rw [HL.out]; exact hlt) C HX.out (by rw [← HE1.out]; exact HZ.out) HT.out]⟩
      · have hne : (e1 != 0) = true := by simp [hz]
        have HZ : Hid (e1 ≠ 0) := hz
        clear hz
        go_wp2_with fail
        refine HH.out.mono ?_
        rintro e w1 ⟨rfl, hb1⟩
        have hb2 : Below w.heap.size w w1 := hbel.trans (hb1.mono hbel.size)
        clear hb1
        go_wp2
        go_ret
        exact ⟨ret_int (by rw [← A.out, M.dchkF_bad k L (by rw [HL.out]; exact hlt) C HX.out (by rw [← HE1.out]; exact HZ.out)]; exact HE1.out), hb2⟩
    · go_wp2
      go_ret
      exact ⟨ret_int (A.out.symm.trans (M.dchkF_end k L (by rw [HL.out]; omega))).symm, hbel⟩

theorem cerror_any (a : Option Addr) (n cap : Nat) (L : List M.Com) (w : World) (h : Cm w a n L) (hm : n ≤ 9223372036854775807) :
    Calls Tryz.prog 149 #[.slice a n cap] w fun e w' => e = .returned (.int .i64 (M.dchk L)) ∧ Below w.heap.size w w' := by
  by_cases h14 : 14 < n
  · refine (cerror_many a n cap w h14 hm).mono ?_
    rintro e w' ⟨rfl, rfl⟩
    exact ⟨by rw [M.dchk_many L (by rw [h.1]; exact h14)], Below.refl _ _⟩
  · have e := M.dchk_few L (by rw [h.1]; omega)
    rcases h.cases with ⟨rfl, rfl⟩ | ⟨b, off, rfl, hn, hl, hB, hc⟩
    · refine (cerror_none a cap w).mono ?_
      rintro e w' ⟨rfl, rfl⟩
      exact ⟨rfl, Below.refl _ _⟩
    · rw [e]
      exact cerror_some b off n cap L w (by omega) hl hB hc

/-- The error of one of the commits. -/
def M.dask (L : List M.Com) (x : Int) : Int := if M.dchk L ≠ 0 then M.dchk L else if x < 0 ∨ (L.length : Int) ≤ x then 5 else 0
end Go.Proofs.YtcgpgflnihjpiafGreat

/- The reference's IsName. -/
namespace Go.Proofs.YtcgpgflnihjpiafGreat
open Go.RowKit Go.PlainAid

set_option maxHeartbeats 2000000 in
theorem rname_any (s : ByteArray) (w : World) (hm : s.size ≤ 9223372036854775807) :
    Calls Tryz.prog 102 #[.string s] w fun e w' => e = .returned (.bool (M.nam s)) ∧ Below w.heap.size w w' := by
  have hbt := get_bt s
  go_enter Tryz.func102, Tryz.ntmps102
  go_wp2
  go_loopg [3] s.size (fun g i wr => ∃ (k : Nat), k + g = s.size ∧ i = .int .i64 k ∧ wr = w ∧ Aside (M.lets s k = M.lets s 0))
  case atStart => exact ⟨0, by omega, rfl, rfl, rfl⟩
  case round =>
    obtain ⟨k, hk, rfl, rfl, A⟩ := hrel
    by_cases hlt : k < s.size
    · have hki : (k : Int) < (s.size : Int) := by omega
      by_cases hl : 97 ≤ bt s k ∧ bt s k ≤ 122
      · have A2 : Aside (M.lets s (k + 1) = M.lets s 0) := by unfold Aside; rw [← M.lets_good s k hl.1 hl.2]; exact A.out
        have h1 : decide (bt s k < 97) = false := by simp; omega
        have h2 : decide (122 < bt s k) = false := by simp; omega
        clear hl A
        go_wp2
        go_roundg (gk - 1)
        case measure => omega
        case rel => exact ⟨k + 1, by omega, by go_num, rfl, A2⟩
      · have A2 : Aside (M.lets s 0 = false) := by unfold Aside; rw [← A.out]; exact M.lets_bad s k hlt (by omega)
        have E : Aside (M.nam s = false) := by unfold Aside M.nam; rw [A2.out]; simp
        clear A
        by_cases h7 : bt s k < 97
        · have h1 : decide (bt s k < 97) = true := by simp [h7]
          clear hl h7
          go_wp2
          go_ret
          exact ⟨ret_bool E.out.symm, Below.refl _ _⟩
        · have h1 : decide (bt s k < 97) = false := by simp; omega
          have h2 : decide (122 < bt s k) = true := by simp; omega
          clear hl h7
          go_wp2
          go_ret
          exact ⟨ret_bool E.out.symm, Below.refl _ _⟩
    · have A2 : Aside (M.lets s 0 = true) := by unfold Aside; rw [← A.out]; exact M.lets_end s k (by omega)
      clear A
      by_cases h8 : 1 ≤ s.size ∧ s.size ≤ 8
      · have HW : Hid (∀ W, Calls Tryz.prog 64 #[.int .i64 (s.size : Int), .int .i64 1, .int .i64 8] W fun e w' => e = .returned (.bool true) ∧ w' = W) := fun W => within_yes _ 1 8 W (by omega) (by omega)
        have E : Aside (M.nam s = true) := by unfold Aside; rw [M.nam_few s (by omega) (by omega)]; exact A2.out
        go_wp2_with (go_at_call 64; refine (HW.out _).mono ?_; rintro e w2 ⟨rfl, rfl⟩)
        go_ret
        exact ⟨ret_bool E.out.symm, Below.refl _ _⟩
      · have HW : Hid (∀ W, Calls Tryz.prog 64 #[.int .i64 (s.size : Int), .int .i64 1, .int .i64 8] W fun e w' => e = .returned (.bool false) ∧ w' = W) := fun W => within_no _ 1 8 W (by omega)
        have E : Aside (M.nam s = false) := by
          unfold Aside
          by_cases h0 : s.size = 0
          · exact M.nam_none s h0
          · exact M.nam_long s (by omega)
        go_wp2_with (go_at_call 64; refine (HW.out _).mono ?_; rintro e w2 ⟨rfl, rfl⟩)
        go_ret
        exact ⟨ret_bool E.out.symm, Below.refl _ _⟩
end Go.Proofs.YtcgpgflnihjpiafGreat

/- The reference's RepoError, headAt, HeadOf. -/
namespace Go.Proofs.YtcgpgflnihjpiafGreat
open Go.RowKit

set_option maxHeartbeats 8000000 in
theorem rerror_any (a : Option Addr) (n cap : Nat) (C : List M.Com) (a2 : Option Addr) (n2 cap2 : Nat) (H : List M.Hd) (w : World) (hC : Cm w a n C) (hn : n ≤ 9223372036854775807) (hH : Hs w a2 n2 H) (hn2 : n2 ≤ 9223372036854775807) :
    Calls Tryz.prog 124 #[.agg #[.slice a n cap, .slice a2 n2 cap2]] w fun e w' => e = .returned (.int .i64 (M.rchk C H)) ∧ Below w.heap.size w w' := by
  obtain ⟨p, hp⟩ : ∃ p, p = w.heap.size := ⟨_, rfl⟩
  have I0 := InBox.new w a n cap C a2 n2 cap2 H hC hH
  obtain ⟨W, hW⟩ : ∃ W, W = w.alloc (.cells #[.slice a n cap, .slice a2 n2 cap2] 25) := ⟨_, rfl⟩
  have hb : Below w.heap.size w W := by rw [hW]; exact (Below.refl _ _).alloc (Nat.le_refl _) _
  rw [← hW, ← hp] at I0
  have q0 := I0.c0
  have HD := cerror_any a n cap C W I0.cm hn
  obtain ⟨c, hc⟩ : ∃ c, c = M.dchk C := ⟨_, rfl⟩
  rw [← hc] at HD
  have HCc : Aside (c = M.dchk C) := hc
  have HDD : Hid (Calls Tryz.prog 149 #[.slice a n cap] W fun e w' => e = .returned (.int .i64 c) ∧ Below W.heap.size W w') := HD
  have HI : Aside (InBox W p a n cap C a2 n2 cap2 H) := I0
  have HW : Hid (W = w.alloc (.cells #[.slice a n cap, .slice a2 n2 cap2] 25)) := hW
  have HP : Aside (p = w.heap.size) := hp
  have HHl : Aside (H.length = n2) := hH.1
  have HCl : Aside (C.length = n) := hC.1
  clear hW HD hc hp I0 hC hH
  go_enter Tryz.func124, Tryz.ntmps124
  go_wp2_with fail
  rw [← HW.out, ← HP.out]
  refine HDD.out.mono ?_
  rintro e w1 ⟨rfl, hb1⟩
  have J1 := HI.out.below hb1
  have d0 := J1.c0
  have d1 := J1.c1
  have HJ : Aside (InBox w1 p a n cap C a2 n2 cap2 H) := J1
  have hbw1 : Below w.heap.size w w1 := hb.trans (hb1.mono hb.size)
  clear J1 q0 hb1
  by_cases hz : c = 0
  · have hne : (c != 0) = false := by simp [hz]
    have HZ : Aside (M.dchk C = 0) := by unfold Aside; rw [← HCc.out]; exact hz
    clear hz
    by_cases h4 : 4 < n2
    · have E : Aside (M.rchk C H = 2) := by unfold Aside M.rchk; rw [if_neg (by rw [HZ.out]; simp), if_pos (by rw [HHl.out]; exact h4)]
      have h4' : decide (4 < (n2 : Int)) = true := by simp; omega
      go_wp2
      go_ret
      exact ⟨ret_int E.out.symm, hbw1⟩
    · have h4' : decide (4 < (n2 : Int)) = false := by simp; omega
      have E1 : Aside (M.rchk C H = if M.named H = false then 4 else if M.inside C.length H = false then 1 else if M.rise H = false then 1 else 0) := by unfold Aside M.rchk; rw [if_neg (by rw [HZ.out]; simp), if_neg (by rw [HHl.out]; exact h4)]
      have hn14 : n ≤ 14 := by rw [← HCl.out]; exact (M.dchk_zero HZ.out).1
      go_wp2
      go_loopg [4] n2 (fun g i wr => ∃ (k : Nat), k + g = n2 ∧ i = .int .i64 k ∧ Below w1.heap.size w1 wr ∧ Aside (∀ j, j < k → M.nam (H.getD j M.hd0).1 = true))
      case atStart => exact ⟨0, by omega, rfl, Below.refl _ _, fun j hj => by omega⟩
      case round =>
        obtain ⟨k, hk, rfl, hbel, A⟩ := hrel
        have J2 := HJ.out.below hbel
        have e1 := J2.c1
        have hbw : Below w.heap.size w wr := hbw1.trans (hbel.mono hbw1.size)
        by_cases hlt : k < n2
        · obtain ⟨x, hx⟩ : ∃ x, H.getD k M.hd0 = x := ⟨_, rfl⟩
          obtain ⟨b, off, rfl, c3, hsz⟩ : ∃ b off, a2 = some ⟨b, off, none⟩ ∧ wr.cell? ⟨b, off + k * 2, none⟩ = some (.string x.1) ∧ x.1.size ≤ 9223372036854775807 := by
            rcases J2.hs.cases with ⟨h0, _⟩ | ⟨b, off, ea, _, _, hB, hc⟩
            · omega
            · exact ⟨b, off, ea, by rw [(hc k hlt).1, hx], by have := (hc k hlt).2.2; rw [hx] at this; exact this⟩
          have hN := rname_any x.1 wr hsz
          obtain ⟨t, ht⟩ : ∃ t, M.nam x.1 = t := ⟨_, rfl⟩
          rw [ht] at hN
          have HN : Hid (Calls Tryz.prog 102 #[.string x.1] wr fun e w' => e = .returned (.bool t) ∧ Below wr.heap.size wr w') := hN
          have HT : Aside (M.nam (H.getD k M.hd0).1 = t) := by unfold Aside; rw [hx]; exact ht
          have hki : (k : Int) < (n2 : Int) := by omega
          clear hx hN ht J2
          go_wp2_with fail
          refine HN.out.mono ?_
          rintro e w3 ⟨rfl, hb3⟩
          cases t with
          | true =>
            go_wp2
            go_roundg (gk - 1)
            case measure => omega
            case rel => exact ⟨k + 1, by omega, by go_num, dbelow2 hbel hb3, fun j hj => by
              by_cases e : j = k
              · subst e; exact HT.out
              · exact A.out j (by omega)⟩
          | false =>
            go_wp2
            go_ret
            exact ⟨ret_int (by rw [E1.out, if_pos (M.named_no (by rw [HHl.out]; exact hlt) HT.out)]), hbw.trans (hb3.mono hbw.size)⟩
        · obtain rfl : k = n2 := by omega
          have E2 : Aside (M.rchk C H = if M.inside C.length H = false then 1 else if M.rise H = false then 1 else 0) := by
            unfold Aside
            rw [E1.out, if_neg (by rw [M.named_at (fun j hj => A.out j (by rw [← HHl.out]; exact hj))]; simp)]
          have hkk : decide ((k : Int) < (k : Int)) = false := by simp
          obtain ⟨w4, hw4⟩ : ∃ w4, w4 = wr := ⟨_, rfl⟩
          rw [← hw4] at hbw J2 e1 ⊢
          have HJ4 : Aside (InBox w4 p a n cap C a2 k cap2 H) := J2
          clear A E1 hw4 hbel J2
          go_wp2
          go_loopg [5] k (fun g i ws => ∃ (j : Nat), j + g = k ∧ i = .int .i64 j ∧ Below w4.heap.size w4 ws ∧ Aside (M.fineTo C.length H j))
          case atStart => exact ⟨0, by omega, rfl, Below.refl _ _, fun j hj => by omega⟩
          case round =>
            obtain ⟨j, hj, rfl, hbel, A⟩ := hrel
            have J5 := HJ4.out.below hbel
            have f0 := J5.c0
            have f1 := J5.c1
            have hbs : Below w.heap.size w wr := hbw.trans (hbel.mono hbw.size)
            by_cases hjl : j < k
            · obtain ⟨x, hx⟩ : ∃ x, H.getD j M.hd0 = x := ⟨_, rfl⟩
              obtain ⟨b, off, rfl, hcc⟩ : ∃ b off, a2 = some ⟨b, off, none⟩ ∧ ∀ i, i < k → wr.cell? ⟨b, off + i * 2, none⟩ = some (.string (H.getD i M.hd0).1) ∧ wr.cell? ⟨b, off + i * 2 + 1, none⟩ = some (.int .i64 (H.getD i M.hd0).2) := by
                rcases J5.hs.cases with ⟨h0, _⟩ | ⟨b, off, ea, _, _, hB, hc⟩
                · omega
                · exact ⟨b, off, ea, fun i hi => ⟨(hc i hi).1, (hc i hi).2.1⟩⟩
              have c3 := (hcc j hjl).1
              have c4 := (hcc j hjl).2
              rw [hx] at c3 c4
              have HX : Aside (H.getD j M.hd0 = x) := hx
              have hji : (j : Int) < (k : Int) := by omega
              have hn1 : IntKind.i64.wrap ((n : Int) - 1) = (n : Int) - 1 := by rw [IntKind.wrap_i64]; omega
              by_cases hin : 0 ≤ x.2 ∧ x.2 < (n : Int)
              · have HW1 : Hid (∀ W, Calls Tryz.prog 64 #[.int .i64 x.2, .int .i64 0, .int .i64 ((n : Int) - 1)] W fun e w' => e = .returned (.bool true) ∧ w' = W) := fun W => within_yes x.2 0 ((n : Int) - 1) W hin.1 (by omega)
                have HIn : Aside (0 ≤ (H.getD j M.hd0).2 ∧ (H.getD j M.hd0).2 < (C.length : Int)) := by unfold Aside; rw [hx, HCl.out]; exact hin
                cases j with
                | zero =>
                  clear hin hx hcc J5
                  go_wp2_with fail
                  go_quiet ((go_at_call 64; exact Calls.quiet_of_same (HW1.out _)))
                  go_wp2
                  go_roundg (gk - 1)
                  case measure => omega
                  case rel => exact ⟨0 + 1, by omega, by go_num, below_drewN hbel _, M.fineTo_next A.out (fun i hi => by omega) HIn.out⟩
                | succ j =>
                  obtain ⟨y, hy⟩ : ∃ y, H.getD j M.hd0 = y := ⟨_, rfl⟩
                  have c5 := (hcc j (by omega)).1
                  rw [hy] at c5
                  obtain ⟨t, ht⟩ : ∃ t, M.less y.1 x.1 = t := ⟨_, rfl⟩
                  have hlt' : Op.bytesLess y.1.toList x.1.toList = t := ht
                  have HT : Aside (M.less (H.getD j M.hd0).1 (H.getD (j + 1) M.hd0).1 = t) := by unfold Aside; rw [hy, hx]; exact ht
                  have hjw : IntKind.i64.wrap (((j + 1 : Nat) : Int) - 1) = (j : Int) := by rw [IntKind.wrap_i64]; omega
                  have hjk : (j : Int) < (k : Int) := by omega
                  have hj0 : decide ((0 : Int) < ((j + 1 : Nat) : Int)) = true := decide_eq_true (by omega)
                  clear hin hx hcc J5 hy ht
                  cases t with
                  | true =>
                    go_wp2_with fail
                    go_quiet ((go_at_call 64; exact Calls.quiet_of_same (HW1.out _)))
                    go_wp2
                    go_roundg (gk - 1)
                    case measure => omega
                    case rel => exact ⟨j + 1 + 1, by omega, by go_num, below_drewN hbel _, M.fineTo_next A.out (fun i hi => by cases Nat.succ.inj hi; exact HT.out) HIn.out⟩
                  | false =>
                    go_wp2_with fail
                    go_quiet ((go_at_call 64; exact Calls.quiet_of_same (HW1.out _)))
                    go_wp2
                    go_ret
                    have hbad := M.fineTo_bad (n := C.length) (H := H) (k := j + 1) (by rw [HHl.out]; exact hjl) (Or.inl ⟨j, rfl, HT.out⟩)
                    exact ⟨ret_int (by rw [E2.out]; rcases hbad with h | h <;> simp [h]), below_drewN hbs _⟩
              · have HW1 : Hid (∀ W, Calls Tryz.prog 64 #[.int .i64 x.2, .int .i64 0, .int .i64 ((n : Int) - 1)] W fun e w' => e = .returned (.bool false) ∧ w' = W) := fun W => within_no x.2 0 ((n : Int) - 1) W (by omega)
                have hbad := M.fineTo_bad (n := C.length) (H := H) (k := j) (by rw [HHl.out]; exact hjl) (Or.inr (by rw [hx, HCl.out]; omega))
                have E3 : Aside (M.rchk C H = 1) := by unfold Aside; rw [E2.out]; rcases hbad with h | h <;> simp [h]
                clear hbad
                cases j with
                | zero =>
                  clear hin hx hcc J5
                  go_wp2_with fail
                  go_quiet ((go_at_call 64; exact Calls.quiet_of_same (HW1.out _)))
                  go_wp2
                  go_ret
                  exact ⟨ret_int E3.out.symm, below_drewN hbs _⟩
                | succ j =>
                  obtain ⟨y, hy⟩ : ∃ y, H.getD j M.hd0 = y := ⟨_, rfl⟩
                  have c5 := (hcc j (by omega)).1
                  rw [hy] at c5
                  obtain ⟨t, ht⟩ : ∃ t, Op.bytesLess y.1.toList x.1.toList = t := ⟨_, rfl⟩
                  have hjw : IntKind.i64.wrap (((j + 1 : Nat) : Int) - 1) = (j : Int) := by rw [IntKind.wrap_i64]; omega
                  have hjk : (j : Int) < (k : Int) := by omega
                  have hj0 : decide ((0 : Int) < ((j + 1 : Nat) : Int)) = true := decide_eq_true (by omega)
                  clear hin hx hcc J5 hy
                  cases t with
                  | true =>
                    go_wp2_with fail
                    go_quiet ((go_at_call 64; exact Calls.quiet_of_same (HW1.out _)))
                    go_wp2
                    go_ret
                    exact ⟨ret_int E3.out.symm, below_drewN hbs _⟩
                  | false =>
                    go_wp2_with fail
                    go_quiet ((go_at_call 64; exact Calls.quiet_of_same (HW1.out _)))
                    go_wp2
                    go_ret
                    exact ⟨ret_int E3.out.symm, below_drewN hbs _⟩
            · obtain rfl : j = k := by omega
              have hkk2 : decide ((j : Int) < (j : Int)) = false := by simp
              have hA := A.out
              rw [← HHl.out] at hA
              have E3 : Aside (M.rchk C H = 0) := by unfold Aside; rw [E2.out, (M.fineTo_end hA).1, (M.fineTo_end hA).2]; rfl
              clear hA A J5
              go_wp2
              go_ret
              exact ⟨ret_int E3.out.symm, hbs⟩
  · have hne : (c != 0) = true := by simp [hz]
    have E : Aside (M.rchk C H = c) := by unfold Aside M.rchk; rw [if_pos (by rw [← HCc.out]; exact hz)]; exact HCc.out.symm
    clear hz
    go_wp2
    go_ret
    exact ⟨ret_int E.out.symm, hbw1⟩
end Go.Proofs.YtcgpgflnihjpiafGreat

/- The reference's headAt, HeadOf. -/
namespace Go.Proofs.YtcgpgflnihjpiafGreat
open Go.RowKit

set_option maxHeartbeats 4000000 in
theorem headAt_any (a : Option Addr) (n cap : Nat) (C : List M.Com) (a2 : Option Addr) (n2 cap2 : Nat) (H : List M.Hd) (s : ByteArray) (w : World) (hC : Cm w a n C) (hH : Hs w a2 n2 H) (hn2 : n2 ≤ 9223372036854775807) :
    Calls Tryz.prog 101 #[.agg #[.slice a n cap, .slice a2 n2 cap2], .string s] w fun e w' => e = .returned (.int .i64 (M.plc H s)) ∧ Below w.heap.size w w' := by
  obtain ⟨p, hp⟩ : ∃ p, p = w.heap.size := ⟨_, rfl⟩
  have I0 := InBox.new w a n cap C a2 n2 cap2 H hC hH
  obtain ⟨W, hW⟩ : ∃ W, W = w.alloc (.cells #[.slice a n cap, .slice a2 n2 cap2] 25) := ⟨_, rfl⟩
  have hb : Below w.heap.size w W := by rw [hW]; exact (Below.refl _ _).alloc (Nat.le_refl _) _
  rw [← hW, ← hp] at I0
  have q1 := I0.c1
  have HHs : Aside (Hs W a2 n2 H) := I0.hs
  have HW : Hid (W = w.alloc (.cells #[.slice a n cap, .slice a2 n2 cap2] 25)) := hW
  have HP : Aside (p = w.heap.size) := hp
  have HHl : Aside (H.length = n2) := hH.1
  clear hW hp I0 hC hH
  go_enter Tryz.func101, Tryz.ntmps101
  go_wp2
  rw [← HW.out, ← HP.out]
  go_loopg [5] n2 (fun g i wr => ∃ (k : Nat), k + g = n2 ∧ i = .int .i64 k ∧ wr = W ∧ Aside (M.idxF (fun h => M.alike h.1 s) (H.drop k) k = M.plc H s))
  case atStart => exact ⟨0, by omega, rfl, rfl, rfl⟩
  case round =>
    obtain ⟨k, hk, rfl, rfl, A⟩ := hrel
    by_cases hlt : k < n2
    · obtain ⟨x, hx⟩ : ∃ x, H.getD k M.hd0 = x := ⟨_, rfl⟩
      obtain ⟨b, off, rfl, c3⟩ : ∃ b off, a2 = some ⟨b, off, none⟩ ∧ wr.cell? ⟨b, off + k * 2, none⟩ = some (.string x.1) := by
        rcases HHs.out.cases with ⟨h0, _⟩ | ⟨b, off, ea, _, _, hB, hc⟩
        · omega
        · exact ⟨b, off, ea, by rw [(hc k hlt).1, hx]⟩
      obtain ⟨t, ht⟩ : ∃ t, M.alike x.1 s = t := ⟨_, rfl⟩
      have ht' : (x.1.toList == s.toList) = t := ht
      have HT : Aside (M.alike (H.getD k M.hd0).1 s = t) := by unfold Aside; rw [hx]; exact ht
      have hki : (k : Int) < (n2 : Int) := by omega
      clear hx ht
      cases t with
      | true =>
        go_wp2
        go_ret
        exact ⟨ret_int (by rw [← A.out, M.idxF_yes (fun h => M.alike h.1 s) H k M.hd0 (by rw [HHl.out]; exact hlt) HT.out]), hb⟩
      | false =>
        go_wp2
        go_roundg (gk - 1)
        case measure => omega
        case rel => exact ⟨k + 1, by omega, by go_num, rfl, by unfold Aside; rw [← A.out, M.idxF_no (fun h => M.alike h.1 s) H k M.hd0 (by rw [HHl.out]; exact hlt) HT.out]⟩
    · go_wp2
      go_ret
      exact ⟨ret_int (by rw [← A.out, M.idxF_end (fun h => M.alike h.1 s) H k (by rw [HHl.out]; omega)]), hb⟩

set_option maxHeartbeats 4000000 in
theorem headOf_any (a : Option Addr) (n cap : Nat) (C : List M.Com) (a2 : Option Addr) (n2 cap2 : Nat) (H : List M.Hd) (s : ByteArray) (w : World) (hC : Cm w a n C) (hn : n ≤ 9223372036854775807) (hH : Hs w a2 n2 H) (hn2 : n2 ≤ 9223372036854775807) :
    Calls Tryz.prog 97 #[.agg #[.slice a n cap, .slice a2 n2 cap2], .string s] w fun e w' => e = .returned (.tuple #[.int .i64 (M.hat C H s), .int .i64 (M.hchk C H s)]) ∧ Below w.heap.size w w' := by
  obtain ⟨p, hp⟩ : ∃ p, p = w.heap.size := ⟨_, rfl⟩
  have I1 := InBox.new w a n cap C a2 n2 cap2 H hC hH
  obtain ⟨W, hW⟩ : ∃ W, W = w.alloc (.cells #[.slice a n cap, .slice a2 n2 cap2] 25) := ⟨_, rfl⟩
  have hb : Below w.heap.size w W := by rw [hW]; exact (Below.refl _ _).alloc (Nat.le_refl _) _
  rw [← hW, ← hp] at I1
  have q0 := I1.c0
  have q1 := I1.c1
  have HK := rerror_any a n cap C a2 n2 cap2 H W I1.cm hn I1.hs hn2
  obtain ⟨c, hc⟩ : ∃ c, c = M.rchk C H := ⟨_, rfl⟩
  rw [← hc] at HK
  have HCc : Aside (c = M.rchk C H) := hc
  have HKK : Hid (Calls Tryz.prog 124 #[.agg #[.slice a n cap, .slice a2 n2 cap2]] W fun e w' => e = .returned (.int .i64 c) ∧ Below W.heap.size W w') := HK
  have HI : Aside (InBox W p a n cap C a2 n2 cap2 H) := I1
  have HW : Hid (W = w.alloc (.cells #[.slice a n cap, .slice a2 n2 cap2] 25)) := hW
  have HP : Aside (p = w.heap.size) := hp
  have HHl : Aside (H.length = n2) := hH.1
  clear hW HK hc hp I1 hC hH
  go_enter Tryz.func97, Tryz.ntmps97
  go_wp2_with fail
  rw [← HW.out, ← HP.out]
  go_wp2_with fail
  refine HKK.out.mono ?_
  rintro e w1 ⟨rfl, hb1⟩
  have J1 := HI.out.below hb1
  have d0 := J1.c0
  have d1 := J1.c1
  have HJ : Aside (InBox w1 p a n cap C a2 n2 cap2 H) := J1
  clear J1 q0 q1
  by_cases hz : c = 0
  · have hne : (c != 0) = false := by simp [hz]
    have HZ : Aside (M.rchk C H = 0) := by unfold Aside; rw [← HCc.out]; exact hz
    clear hz
    have KK : Hid (Calls Tryz.prog 101 #[.agg #[.slice a n cap, .slice a2 n2 cap2], .string s] w1 fun e w' => e = .returned (.int .i64 (M.plc H s)) ∧ Below w1.heap.size w1 w') := headAt_any a n cap C a2 n2 cap2 H s w1 HJ.out.cm HJ.out.hs hn2
    have hpl := M.plc_lt H s
    obtain ⟨i, hi⟩ : ∃ i, M.plc H s = i := ⟨_, rfl⟩
    rw [hi] at KK hpl
    rw [HHl.out] at hpl
    have HIi : Aside (M.plc H s = i) := hi
    clear hi
    go_wp2_with fail
    refine KK.out.mono ?_
    rintro e w2 ⟨rfl, hb2⟩
    have b2 := dbelow2 hb1 hb2
    have J2 := HJ.out.below hb2
    have e0 := J2.c0
    have e1 := J2.c1
    clear d0 d1
    rcases hpl with rfl | ⟨h0, h1⟩
    · have E : Aside (M.hchk C H s = 5) := by unfold Aside M.hchk; rw [if_neg (by rw [HZ.out]; simp), HIi.out, if_pos (by omega)]
      clear J2
      go_wp2
      go_ret2
      exact ⟨ret_pair (M.hat_zero (by rw [E.out]; simp)).symm E.out.symm, hb.trans (b2.mono hb.size)⟩
    · obtain ⟨k, rfl⟩ : ∃ k : Nat, i = (k : Int) := ⟨i.toNat, by omega⟩
      have hk : k < n2 := by omega
      have E : Aside (M.hchk C H s = 0) := by unfold Aside M.hchk; rw [if_neg (by rw [HZ.out]; simp), HIi.out, if_neg (by omega)]
      obtain ⟨x, hx⟩ : ∃ x, (H.getD k M.hd0).2 = x := ⟨_, rfl⟩
      have E2 : Aside (M.hat C H s = x) := by unfold Aside M.hat; rw [if_neg (by rw [E.out]; simp), HIi.out, ← hx]; rfl
      obtain ⟨hb3, ho, rfl, c3⟩ : ∃ b off, a2 = some ⟨b, off, none⟩ ∧ w2.cell? ⟨b, off + k * 2 + 1, none⟩ = some (.int .i64 x) := by
        rcases J2.hs.cases with ⟨h0, _⟩ | ⟨b, off, ea, _, _, hB, hc⟩
        · omega
        · exact ⟨b, off, ea, by rw [(hc k hk).2.1, hx]⟩
      have hlt0 : decide ((k : Int) < 0) = false := by simp
      clear J2 hx h0
      go_wp2
      go_ret2
      exact ⟨ret_pair E2.out.symm E.out.symm, hb.trans (b2.mono hb.size)⟩
  · have hne : (c != 0) = true := by simp [hz]
    have E : Aside (M.hchk C H s = c) := by unfold Aside M.hchk; rw [if_pos (by rw [← HCc.out]; exact hz)]; exact HCc.out.symm
    have HZ : Aside (c ≠ 0) := hz
    clear hz
    go_wp2
    go_ret2
    exact ⟨ret_pair (M.hat_zero (by rw [E.out]; exact HZ.out)).symm E.out.symm, hb.trans (hb1.mono hb.size)⟩
end Go.Proofs.YtcgpgflnihjpiafGreat

/- The reference's ChangesFine. -/
namespace Go.Proofs.YtcgpgflnihjpiafGreat
namespace M
def prevC (l : List Chg) : Nat → Int
  | 0 => -1
  | k + 1 => (l.getD k (0, 0, 0)).1
end M
open Go.RowKit

theorem cfine_none (a : Option Addr) (cap : Nat) (w : World) :
    Calls Tryz.prog 98 #[.slice a 0 cap] w fun e w' => e = .returned (.bool true) ∧ w' = w := by
  go_enter Tryz.func98, Tryz.ntmps98
  go_wp2
  refine wp_loop_rounds 1 ?_
  rw [rounds_succ]
  go_wp2
  go_ret
  exact ⟨rfl, rfl⟩

set_option maxHeartbeats 8000000 in
theorem cfine_some (b off n cap : Nat) (l : List M.Chg) (w : World) (hm : n ≤ 9223372036854775807) (hl : l.length = n) (hB : b < w.heap.size)
    (hc : ∀ i, i < n → w.cell? ⟨b, off + i * 3, none⟩ = some (.int .i64 (l.getD i (0, 0, 0)).1) ∧ w.cell? ⟨b, off + i * 3 + 1, none⟩ = some (.int .i64 (l.getD i (0, 0, 0)).2.1) ∧ w.cell? ⟨b, off + i * 3 + 2, none⟩ = some (.int .i64 (l.getD i (0, 0, 0)).2.2)) :
    Calls Tryz.prog 98 #[.slice (some ⟨b, off, none⟩) n cap] w fun e w' => e = .returned (.bool (M.fine l)) ∧ Below w.heap.size w w' := by
  have HC : Aside (∀ i, i < n → w.cell? ⟨b, off + i * 3, none⟩ = some (.int .i64 (l.getD i (0, 0, 0)).1) ∧ w.cell? ⟨b, off + i * 3 + 1, none⟩ = some (.int .i64 (l.getD i (0, 0, 0)).2.1) ∧ w.cell? ⟨b, off + i * 3 + 2, none⟩ = some (.int .i64 (l.getD i (0, 0, 0)).2.2)) := hc
  have HL : Aside (l.length = n) := hl
  clear hc hl
  go_enter Tryz.func98, Tryz.ntmps98
  go_wp2
  go_loopg [3] n (fun g i wr => ∃ (k : Nat) (q : Int), k + g = n ∧ -1 ≤ q ∧ i = .int .i64 k ∧ Below w.heap.size w wr ∧ Aside (q = M.prevC l k) ∧ Aside (M.fineF q (l.drop k) = M.fine l))
  case atStart => exact ⟨0, -1, by omega, by omega, rfl, Below.refl _ _, rfl, by simp [Aside, M.fine]⟩
  case round =>
    obtain ⟨k, q, hk, hq1, rfl, hbel, A, A2⟩ := hrel
    have hsz := hbel.size
    by_cases hlt : k < n
    · obtain ⟨x, y, z, hxyz⟩ : ∃ x y z, l.getD k (0, 0, 0) = (x, y, z) := ⟨_, _, _, rfl⟩
      have c0 : wr.cell? ⟨b, off + k * 3, none⟩ = some (.int .i64 x) := by rw [hbel.cell (p := ⟨b, off + k * 3, none⟩) hB, (HC.out k hlt).1, hxyz]
      have c1 : wr.cell? ⟨b, off + k * 3 + 1, none⟩ = some (.int .i64 y) := by rw [hbel.cell (p := ⟨b, off + k * 3 + 1, none⟩) hB, (HC.out k hlt).2.1, hxyz]
      have c2 : wr.cell? ⟨b, off + k * 3 + 2, none⟩ = some (.int .i64 z) := by rw [hbel.cell (p := ⟨b, off + k * 3 + 2, none⟩) hB, (HC.out k hlt).2.2, hxyz]
      have HXY : Aside (l.getD k (0, 0, 0) = (x, y, z)) := hxyz
      have bad : Aside ((x ≤ q ∨ 99 < x ∨ y < -1 ∨ 996 < y ∨ z < -1 ∨ 996 < z ∨ y = z) → M.fine l = false) := fun h => A2.out.symm.trans (M.fineF_bad q l k (by rw [HL.out]; exact hlt) x y z hxyz h)
      have good : Aside ((q < x ∧ x ≤ 99 ∧ -1 ≤ y ∧ y ≤ 996 ∧ -1 ≤ z ∧ z ≤ 996 ∧ y ≠ z) → M.fineF x (l.drop (k + 1)) = M.fine l) := fun h => by rw [← A2.out, M.fineF_good q l k (by rw [HL.out]; exact hlt) x y z hxyz h]
      clear hxyz
      have hki : (k : Int) < (n : Int) := by omega
      by_cases g1 : 0 ≤ x ∧ x ≤ 99
      · obtain ⟨g1, g2⟩ := g1
        by_cases g3 : -1 ≤ y ∧ y ≤ 996
        · obtain ⟨g3, g4⟩ := g3
          by_cases g5 : -1 ≤ z ∧ z ≤ 996
          · obtain ⟨g5, g6⟩ := g5
            by_cases g7 : y = z
            · have hg7 : (y == z) = true := by simp [g7]
              have G : Hid (M.fine l = false) := bad.out (by omega)
              clear g7
              go_wp2_with fail
              go_quiet ((first | (go_at_call 125; exact Calls.quiet_of_same (isKey_yes _ _ g1 g2)) | (go_at_call 64; exact Calls.quiet_of_same (within_yes _ _ _ _ g3 g4)) | (go_at_call 64; exact Calls.quiet_of_same (within_yes _ _ _ _ g5 g6))))
              go_wp2
              go_ret
              exact ⟨ret_bool G.out.symm, below_drewN hbel _⟩
            · have hg7 : (y == z) = false := by simp [g7]
              have G7 : Hid (y ≠ z) := g7
              clear g7
              by_cases h0 : k = 0
              · have hg : decide (0 < k) = false := by simp; omega
                have hq : q = -1 := by have e := A.out; rw [h0] at e; exact e
                have G : Aside (M.fineF x (l.drop (k + 1)) = M.fine l) := good.out ⟨by omega, g2, g3, g4, g5, g6, G7.out⟩
                clear h0 hq
                go_wp2_with fail
                go_quiet ((first | (go_at_call 125; exact Calls.quiet_of_same (isKey_yes _ _ g1 g2)) | (go_at_call 64; exact Calls.quiet_of_same (within_yes _ _ _ _ g3 g4)) | (go_at_call 64; exact Calls.quiet_of_same (within_yes _ _ _ _ g5 g6))))
                go_wp2
                go_roundg (gk - 1)
                case measure => omega
                case rel => exact ⟨k + 1, x, by omega, by omega, by go_num, below_drewN hbel _, by show x = (l.getD _ (0, 0, 0)).1; rw [HXY.out], G⟩
              · obtain ⟨j, rfl⟩ : ∃ j, k = j + 1 := ⟨k - 1, by omega⟩
                have cj : wr.cell? ⟨b, off + j * 3, none⟩ = some (.int .i64 (l.getD j (0, 0, 0)).1) := by rw [hbel.cell (p := ⟨b, off + j * 3, none⟩) hB, (HC.out j (by omega)).1]
                obtain ⟨p, hp⟩ : ∃ p, p = (l.getD j (0, 0, 0)).1 := ⟨_, rfl⟩
                rw [← hp] at cj
                have hqp : q = p := by have e := A.out; rw [hp]; exact e
                clear hp h0
                by_cases h5 : x ≤ p
                · have G : Hid (M.fine l = false) := bad.out (by omega)
                  clear hqp
                  go_wp2_with fail
                  go_quiet ((first | (go_at_call 125; exact Calls.quiet_of_same (isKey_yes _ _ g1 g2)) | (go_at_call 64; exact Calls.quiet_of_same (within_yes _ _ _ _ g3 g4)) | (go_at_call 64; exact Calls.quiet_of_same (within_yes _ _ _ _ g5 g6))))
                  go_wp2
                  go_ret
                  exact ⟨ret_bool G.out.symm, below_drewN hbel _⟩
                · have hg : decide (x ≤ p) = false := by simp; omega
                  have G : Aside (M.fineF x (l.drop (j + 1 + 1)) = M.fine l) := good.out ⟨by omega, g2, g3, g4, g5, g6, G7.out⟩
                  clear hqp
                  go_wp2_with fail
                  go_quiet ((first | (go_at_call 125; exact Calls.quiet_of_same (isKey_yes _ _ g1 g2)) | (go_at_call 64; exact Calls.quiet_of_same (within_yes _ _ _ _ g3 g4)) | (go_at_call 64; exact Calls.quiet_of_same (within_yes _ _ _ _ g5 g6))))
                  go_wp2
                  go_roundg (gk - 1)
                  case measure => omega
                  case rel => exact ⟨j + 1 + 1, x, by omega, by omega, by go_num, below_drewN hbel _, by show x = (l.getD _ (0, 0, 0)).1; rw [HXY.out], G⟩
          · have g5' : z < -1 ∨ 996 < z := by omega
            have G : Hid (M.fine l = false) := bad.out (by omega)
            have H5 : Hid (z < -1 ∨ 996 < z) := g5'
            clear g5 g5'
            go_wp2_with fail
            go_quiet ((first | (go_at_call 125; exact Calls.quiet_of_same (isKey_yes _ _ g1 g2)) | (go_at_call 64; exact Calls.quiet_of_same (within_yes _ _ _ _ g3 g4)) | (go_at_call 64; exact Calls.quiet_of_same (within_no _ _ _ _ H5.out))))
            go_wp2
            go_ret
            exact ⟨ret_bool G.out.symm, below_drewN hbel _⟩
        · have g3' : y < -1 ∨ 996 < y := by omega
          have G : Hid (M.fine l = false) := bad.out (by omega)
          have H3 : Hid (y < -1 ∨ 996 < y) := g3'
          clear g3 g3'
          go_wp2_with fail
          go_quiet ((first | (go_at_call 125; exact Calls.quiet_of_same (isKey_yes _ _ g1 g2)) | (go_at_call 64; exact Calls.quiet_of_same (within_no _ _ _ _ H3.out))))
          go_wp2
          go_ret
          exact ⟨ret_bool G.out.symm, below_drewN hbel _⟩
      · have g1' : x < 0 ∨ 99 < x := by omega
        have G : Hid (M.fine l = false) := bad.out (by omega)
        have H1 : Hid (x < 0 ∨ 99 < x) := g1'
        clear g1 g1'
        go_wp2_with fail
        go_quiet ((go_at_call 125; exact Calls.quiet_of_same (isKey_no _ _ H1.out)))
        go_wp2
        go_ret
        exact ⟨ret_bool G.out.symm, below_drewN hbel _⟩
    · have G : Hid (M.fine l = true) := A2.out.symm.trans (M.fineF_end q l k (by rw [HL.out]; omega))
      go_wp2
      go_ret
      exact ⟨ret_bool G.out.symm, hbel⟩

theorem cfine_any (a : Option Addr) (n cap : Nat) (l : List M.Chg) (w : World) (h : Rc w a n l) (hm : n ≤ 9223372036854775807) :
    Calls Tryz.prog 98 #[.slice a n cap] w fun e w' => e = .returned (.bool (M.fine l)) ∧ Below w.heap.size w w' := by
  rcases h.cases with ⟨rfl, rfl⟩ | ⟨b, off, rfl, hn, hl, hB, hc⟩
  · refine (cfine_none a cap w).mono ?_
    rintro e w' ⟨rfl, rfl⟩
    exact ⟨rfl, Below.refl _ _⟩
  · exact cfine_some b off n cap l w hm hl hB hc
end Go.Proofs.YtcgpgflnihjpiafGreat
