/- The reference's BranchOf. -/
import Derived.Test.YtcgpgflnihjpiafGreatBLogRecovers14
import Derived.Test.YtcgpgflnihjpiafGreatBLogRecovers13
import Derived.Test.YtcgpgflnihjpiafGreatBLogRecovers09
namespace Go.Proofs.YtcgpgflnihjpiafGreat
open Go.RowKit Go.Shelf Go.Maps

theorem M.brE_at {C : List M.Com} {H : List M.Hd} {s t : ByteArray} (hz : M.hchk C H t = 0) :
    (M.nam s = false → M.brE C H s t = 4) ∧ (M.nam s = true → 0 ≤ M.plc H s → M.brE C H s t = 6) ∧ (M.nam s = true → M.plc H s < 0 → H.length = 4 → M.brE C H s t = 2) ∧ (M.nam s = true → M.plc H s < 0 → H.length ≠ 4 → M.brE C H s t = 0) := by
  have h4 := (M.rchk_zero (M.hchk_zero hz).1).2.1
  unfold M.brE
  refine ⟨fun h => ?_, fun h1 h2 => ?_, fun h1 h2 h3 => ?_, fun h1 h2 h3 => ?_⟩
  · simp [hz, h]
  · simp [hz, h1, h2]
  · have : ¬ 0 ≤ M.plc H s := by omega
    simp [hz, h1, this, h3]
  · have : ¬ 0 ≤ M.plc H s := by omega
    have h5 : ¬ 4 ≤ H.length := by omega
    simp [hz, h1, this, h5]
/-- What the loop has made of the first k heads: dn: the head is in. -/
def M.insOk (x : M.Hd) (H : List M.Hd) (k : Nat) (dn : Bool) (O : List M.Hd) : Prop := O ++ (if dn = true then H.drop k else M.insH x (H.drop k)) = M.insH x H ∧ O.length = k + (if dn = true then 1 else 0)
theorem M.insOk_zero (x : M.Hd) (H : List M.Hd) : M.insOk x H 0 false [] := ⟨by simp, by simp⟩
theorem M.insOk_in {x : M.Hd} {H O : List M.Hd} {k : Nat} (h : M.insOk x H k false O) (hk : k < H.length) (hl : M.less x.1 (H.getD k M.hd0).1 = true) : M.insOk x H (k + 1) true (O ++ [x] ++ [H.getD k M.hd0]) := by
  obtain ⟨h1, h2⟩ := h
  rw [M.hdrop H k hk] at h1
  refine ⟨?_, by simp at h2 ⊢; omega⟩
  simp only [Bool.false_eq_true, if_false] at h1
  have e : M.insH x (H.getD k M.hd0 :: H.drop (k + 1)) = x :: H.getD k M.hd0 :: H.drop (k + 1) := by rw [M.insH, if_pos hl]
  rw [e] at h1
  simp only [if_true]
  rw [← h1]
  simp
theorem M.insOk_by {x : M.Hd} {H O : List M.Hd} {k : Nat} {dn : Bool} (h : M.insOk x H k dn O) (hk : k < H.length) (hl : dn = false → M.less x.1 (H.getD k M.hd0).1 = false) : M.insOk x H (k + 1) dn (O ++ [H.getD k M.hd0]) := by
  obtain ⟨h1, h2⟩ := h
  rw [M.hdrop H k hk] at h1
  cases dn with
  | true =>
    refine ⟨?_, by simp at h2 ⊢; omega⟩
    simp only [if_true] at h1 ⊢
    rw [← h1]; simp
  | false =>
    refine ⟨?_, by simp at h2 ⊢; omega⟩
    simp only [Bool.false_eq_true, if_false] at h1 ⊢
    have e : M.insH x (H.getD k M.hd0 :: H.drop (k + 1)) = H.getD k M.hd0 :: M.insH x (H.drop (k + 1)) := by rw [M.insH, if_neg (by rw [hl rfl]; simp)]
    rw [e] at h1
    rw [← h1]; simp
theorem M.insOk_end {x : M.Hd} {H O : List M.Hd} {dn : Bool} (h : M.insOk x H H.length dn O) : (if dn = true then O else O ++ [x]) = M.insH x H := by
  obtain ⟨h1, h2⟩ := h
  rw [List.drop_length] at h1
  cases dn with
  | true => simpa using h1
  | false => simpa [M.insH] using h1
/-- A box with a repo whose heads grow. -/
structure BAt (w0 : World) (B D : Nat) (x y : Value) (C : List M.Com) (O : List M.Hd) (w : World) : Prop where
  bel : Below D w0 w
  blk : w.heap[D]? = some (.cells #[x, y] 25 (0, 0))
  k : OwnK w B x C
  h : OwnH w D y O
theorem head_new (w : World) (s : ByteArray) (n : Int) (hs : s.size ≤ 9223372036854775807) : Hs (w.alloc (.cells #[.string s, .int .i64 n] 71)) (some ⟨w.heap.size, 0, none⟩) 1 [(s, n)] :=
  ⟨rfl, Or.inr ⟨w.heap.size, 0, rfl, by simp, fun i hi => by
    obtain rfl : i = 0 := by omega
    exact ⟨by simp [go_sem], by simp [go_sem], hs⟩⟩⟩
/-- A head is appended, and the box is set. -/
theorem BAt.put {w0 w w' : World} {B D : Nat} {x y y' : Value} {C : List M.Com} {O : List M.Hd} {q : M.Hd} (h : BAt w0 B D x y C O w) (tmp : Obj) (ho : OwnH w' D y' (O ++ [q])) (hg : (w.alloc tmp).grownBy w' y.ownBlock) :
    BAt w0 B D x y' C (O ++ [q]) (w'.setCell ⟨D, 1, none⟩ y') ∧ w'.heap[D]? = some (.cells #[x, y] 25 (0, 0)) := by
  have hlt := (Array.getElem?_eq_some_iff.1 h.blk).1
  have hba : Below w.heap.size w (w.alloc tmp) := (Below.refl _ _).alloc (Nat.le_refl _) _
  have typ : ∀ r, y.ownBlock = some r → ∃ cur, (w.alloc tmp).heap[r]? = some (.cells cur 71 (0, 0)) := by
    intro r e
    rcases (h.h.1.alloc tmp).2 with ⟨rfl, _⟩ | ⟨g, cap, cur', rfl, _, hgb, _⟩
    · simp [Value.ownBlock] at e
    · obtain rfl : g = r := by simpa [Value.ownBlock] using e
      exact ⟨_, hgb⟩
  have other : ∀ e, e ≠ 71 → ∀ r, y.ownBlock = some r → ∀ cur, (w.alloc tmp).heap[r]? ≠ some (.cells cur e (0, 0)) := by
    intro e he r hr cur hc
    obtain ⟨cur', hcur⟩ := typ r hr
    rw [hcur] at hc
    simp at hc
    exact he hc.2.symm
  have hDa : (w.alloc tmp).heap[D]? = some (.cells #[x, y] 25 (0, 0)) := by rw [Below.heap_alloc _ _ _ hlt]; exact h.blk
  have hne : y.ownBlock ≠ some D := fun e => other _ (by decide) D e _ hDa
  have hbk : w'.heap[D]? = some (.cells #[x, y] 25 (0, 0)) := by
    rw [hg.block D (by simp; omega) (fun e => hne e.symm)]; exact hDa
  have b1 : Below D w0 w' := (h.bel.alloc (Nat.le_of_lt hlt) tmp).grown hg (by simp; omega) (fun k e => (World.ownsRow.lt h.h.1 k e).1)
  obtain ⟨vals, k1, k2, k3⟩ := h.k.later hba
  have K' : OwnK w' B x C := ⟨vals, k1, ownsRow_elsewhere k2 hg (other _ (by decide)), fun i hi => ⟨ownsRow_elsewhere (k3 i hi).1 hg (other _ (by decide)), ownsRow_elsewhere (k3 i hi).2.1 hg (other _ (by decide)), (k3 i hi).2.2⟩⟩
  have g2 := grownBy_set w' ⟨D, 1, none⟩ y'
  refine ⟨⟨b1.setCell (p := ⟨D, 1, none⟩) (Nat.le_refl _) _, ?_, K'.elsewhere g2 hbk (by decide) (by decide) (by decide), ho.elsewhere g2 hbk (by decide)⟩, hbk⟩
  rw [heap_setCell_same _ _ _ _ _ _ hbk]; rfl

set_option maxRecDepth 100000 in
set_option maxHeartbeats 16000000 in
theorem branchOf_any (a : Option Addr) (n cap : Nat) (C : List M.Com) (a2 : Option Addr) (n2 cap2 : Nat) (H : List M.Hd) (s t : ByteArray) (w : World) (hV : RepoV w a n cap C a2 n2 cap2 H) (hss : s.size ≤ 9223372036854775807) :
    Calls Tryz.prog 57 #[.agg #[.slice a n cap, .slice a2 n2 cap2], .string s, .string t] w fun e w' => ∃ v, e = .returned (.tuple #[v, .int .i64 (M.brE C H s t)]) ∧ RepoOwn w' w.heap.size v (M.brC C H s t) (M.brH C H s t) ∧ Below w.heap.size w w' := by
  obtain ⟨p, hp⟩ : ∃ p, p = w.heap.size := ⟨_, rfl⟩
  obtain ⟨R, hR⟩ : ∃ R, R = p + 1 := ⟨_, rfl⟩
  have I0 := InBox.new w a n cap C a2 n2 cap2 H hV.cm hV.hs
  obtain ⟨W, hW⟩ : ∃ W, W = (w.alloc (.cells #[.slice a n cap, .slice a2 n2 cap2] 25)).alloc (.cells #[.slice none 0 0, .slice none 0 0] 25) := ⟨_, rfl⟩
  have hb0 : Below (w.alloc (.cells #[.slice a n cap, .slice a2 n2 cap2] 25)).heap.size (w.alloc (.cells #[.slice a n cap, .slice a2 n2 cap2] 25)) W := by rw [hW]; exact (Below.refl _ _).alloc (Nat.le_refl _) _
  have I1 := I0.below hb0
  rw [← hp] at I1
  have hb : Below w.heap.size w W := by rw [hW]; exact ((Below.refl _ _).alloc (Nat.le_refl _) _).alloc (by simp) _
  have hsz : W.heap.size = R + 1 := by rw [hW, hR, hp]; simp
  have q2 : W.heap[R]? = some (.cells #[.slice none 0 0, .slice none 0 0] 25 (0, 0)) := by
    rw [hW, show R = (w.alloc (.cells #[.slice a n cap, .slice a2 n2 cap2] 25)).heap.size by rw [hR, hp]; simp]
    exact heap_alloc_new _ _
  have HI : Hid (InBox W p a n cap C a2 n2 cap2 H) := I1
  have HVW : Hid (RepoV W a n cap C a2 n2 cap2 H) := hV.later hb
  have c0 := I1.c0
  have c1 := I1.c1
  obtain ⟨z, hz⟩ : ∃ z, z = M.hchk C H t := ⟨_, rfl⟩
  obtain ⟨x, hx⟩ : ∃ x, x = M.hat C H t := ⟨_, rfl⟩
  have K0 := headOf_any a n cap C a2 n2 cap2 H t W I1.cm hV.nm I1.hs hV.hm
  rw [← hz, ← hx] at K0
  have KH : Hid (Calls Tryz.prog 97 #[.agg #[.slice a n cap, .slice a2 n2 cap2], .string t] W fun e w' => e = .returned (.tuple #[.int .i64 x, .int .i64 z]) ∧ Below W.heap.size W w') := K0
  have HZ : Aside (z = M.hchk C H t) := hz
  have HX : Aside (x = M.hat C H t) := hx
  have HQ2 : Hid (W.heap[R]? = some (.cells #[.slice none 0 0, .slice none 0 0] 25 (0, 0))) := q2
  have HW : Hid (W = (w.alloc (.cells #[.slice a n cap, .slice a2 n2 cap2] 25)).alloc (.cells #[.slice none 0 0, .slice none 0 0] 25)) := hW
  have HP : Aside (p = w.heap.size) := hp
  have HR : Aside (R = p + 1) := hR
  have HPR : Aside (w.heap.size ≤ p) := by unfold Aside; omega
  have HSz : Aside (W.heap.size = R + 1) := hsz
  have hpR : p < R := by omega
  have HNH : Aside (H.length = n2) := hV.hs.1
  clear hW hp hR hV hb0 I0 I1 K0 hz hx q2 hsz
  go_enter Tryz.func57, Tryz.ntmps57
  go_wp2_with fail
  rw [← HW.out, ← HP.out, ← HR.out]
  go_wp2_with fail
  refine KH.out.mono ?_
  rintro e w1 ⟨rfl, b1⟩
  have hb1 : Below w.heap.size w w1 := hb.trans (b1.mono hb.size)
  have hRl : R < w1.heap.size := by have := HSz.out; have := b1.size; omega
  have r1 : w1.heap[R]? = some (.cells #[.slice none 0 0, .slice none 0 0] 25 (0, 0)) := (b1.block R (by have := HSz.out; omega)).trans HQ2.out
  have J1 := HI.out.below b1
  have d0 := J1.c0
  have d1 := J1.c1
  by_cases hz0 : z = 0
  · subst hz0
    have HZ0 : Hid (M.hchk C H t = 0) := HZ.out.symm
    have hr0 := (M.hchk_zero HZ0.out).1
    obtain ⟨tn, ht⟩ : ∃ tn, tn = M.nam s := ⟨_, rfl⟩
    have K1 := rname_any s w1 hss
    rw [← ht] at K1
    have KN : Hid (Calls Tryz.prog 102 #[.string s] w1 fun e w' => e = .returned (.bool tn) ∧ Below w1.heap.size w1 w') := K1
    have HT : Aside (tn = M.nam s) := ht
    clear K1 ht c0 c1 J1 KH d0 d1
    go_wp2_with fail
    refine KN.out.mono ?_
    rintro e w2 ⟨rfl, b2⟩
    have hb2 : Below w.heap.size w w2 := hb1.trans (b2.mono hb1.size)
    have r2 : w2.heap[R]? = some (.cells #[.slice none 0 0, .slice none 0 0] 25 (0, 0)) := (b2.block R hRl).trans r1
    have hRl2 : R < w2.heap.size := (Array.getElem?_eq_some_iff.1 r2).1
    have bW2 : Below W.heap.size W w2 := b1.trans (b2.mono b1.size)
    have J2 := HI.out.below bW2
    have e0 := J2.c0
    have e1 := J2.c1
    clear b2 KN r1 J2
    cases tn with
    | false =>
      have E : Aside (M.brE C H s t = 4) := (M.brE_at HZ0.out).1 HT.out.symm
      have EC : Aside (M.brC C H s t = [] ∧ M.brH C H s t = []) := ⟨by unfold M.brC; rw [if_neg (by rw [E.out]; decide)], by unfold M.brH; rw [if_neg (by rw [E.out]; decide)]⟩
      obtain ⟨g1, g2, g3⟩ := res_set r2 (.slice none 0 0) (.slice none 0 0)
      obtain ⟨X, hX⟩ : ∃ X, X = (w2.setCell ⟨R, 0, none⟩ (.slice none 0 0)).setCell ⟨R, 1, none⟩ (.slice none 0 0) := ⟨_, rfl⟩
      rw [← hX] at g1
      have bX : Below w.heap.size w X := by rw [hX]; exact (hb2.setCell (p := ⟨R, 0, none⟩) (by show _ ≤ R; have := HPR.out; omega) _).setCell (p := ⟨R, 1, none⟩) (by show _ ≤ R; have := HPR.out; omega) _
      have gX := g1
      have HX9 : Hid (X = (w2.setCell ⟨R, 0, none⟩ (.slice none 0 0)).setCell ⟨R, 1, none⟩ (.slice none 0 0)) := hX
      have HX0 : Aside (X.cell? ⟨R, 0, none⟩ = some (.slice none 0 0)) := by unfold Aside; rw [cell_of_row _ _ _ _ _ _ gX]; rfl
      have HX1 : Aside (X.cell? ⟨R, 1, none⟩ = some (.slice none 0 0)) := by unfold Aside; rw [cell_of_row _ _ _ _ _ _ gX]; rfl
      have x0 : w2.cell? ⟨R, 0, none⟩ = some (.slice none 0 0) := by rw [cell_of_row _ _ _ _ _ _ r2]; rfl
      have x1 : w2.cell? ⟨R, 1, none⟩ = some (.slice none 0 0) := by rw [cell_of_row _ _ _ _ _ _ r2]; rfl
      have f0 : w2.frozen? ⟨R, 0, none⟩ = false := frozen_of_row _ _ _ _ _ r2
      have f1 : w2.frozen? ⟨R, 1, none⟩ = false := frozen_of_row _ _ _ _ _ r2
      clear g1 g2 g3 hX gX r2
      go_wp2
      rw [← HX9.out]
      have y0 := HX0.out
      have y1 := HX1.out
      refine bodyPost_ret (v := .tuple #[.agg #[.slice none 0 0, .slice none 0 0], .int .i64 4]) (by simp [results, Tryz.results57, go_sem, y0, y1]) rfl ?_
      refine ⟨_, ret_two' E.out.symm, ?_, bX⟩
      rw [EC.out.1, EC.out.2]; exact RepoOwn.none _ _
    | true =>
      obtain ⟨pl, hpl⟩ : ∃ pl, pl = M.plc H s := ⟨_, rfl⟩
      have K2 := headAt_any a n cap C a2 n2 cap2 H s w2 (HVW.out.later bW2).cm (HVW.out.later bW2).hs (HVW.out.later bW2).hm
      rw [← hpl] at K2
      have KA : Hid (Calls Tryz.prog 101 #[.agg #[.slice a n cap, .slice a2 n2 cap2], .string s] w2 fun e w' => e = .returned (.int .i64 pl) ∧ Below w2.heap.size w2 w') := K2
      have HPl : Aside (pl = M.plc H s) := hpl
      clear K2 hpl
      go_wp2_with fail
      refine KA.out.mono ?_
      rintro e w3 ⟨rfl, b3⟩
      have hb3 : Below w.heap.size w w3 := hb2.trans (b3.mono hb2.size)
      have r3 : w3.heap[R]? = some (.cells #[.slice none 0 0, .slice none 0 0] 25 (0, 0)) := (b3.block R hRl2).trans r2
      have hRl3 : R < w3.heap.size := (Array.getElem?_eq_some_iff.1 r3).1
      have bW3 : Below W.heap.size W w3 := bW2.trans (b3.mono bW2.size)
      have J3 := HI.out.below bW3
      have f0' := J3.c0
      have f1' := J3.c1
      clear b3 KA r2 J3 e0 e1
      by_cases hp0 : 0 ≤ pl
      · have E : Aside (M.brE C H s t = 6) := (M.brE_at HZ0.out).2.1 HT.out.symm (by rw [← HPl.out]; exact hp0)
        have hpb : decide (0 ≤ pl) = true := by simp [hp0]
        have EC : Aside (M.brC C H s t = [] ∧ M.brH C H s t = []) := ⟨by unfold M.brC; rw [if_neg (by rw [E.out]; decide)], by unfold M.brH; rw [if_neg (by rw [E.out]; decide)]⟩
        obtain ⟨g1, g2, g3⟩ := res_set r3 (.slice none 0 0) (.slice none 0 0)
        obtain ⟨X, hX⟩ : ∃ X, X = (w3.setCell ⟨R, 0, none⟩ (.slice none 0 0)).setCell ⟨R, 1, none⟩ (.slice none 0 0) := ⟨_, rfl⟩
        rw [← hX] at g1
        have bX : Below w.heap.size w X := by rw [hX]; exact (hb3.setCell (p := ⟨R, 0, none⟩) (by show _ ≤ R; have := HPR.out; omega) _).setCell (p := ⟨R, 1, none⟩) (by show _ ≤ R; have := HPR.out; omega) _
        have gX := g1
        have HX9 : Hid (X = (w3.setCell ⟨R, 0, none⟩ (.slice none 0 0)).setCell ⟨R, 1, none⟩ (.slice none 0 0)) := hX
        have HX0 : Aside (X.cell? ⟨R, 0, none⟩ = some (.slice none 0 0)) := by unfold Aside; rw [cell_of_row _ _ _ _ _ _ gX]; rfl
        have HX1 : Aside (X.cell? ⟨R, 1, none⟩ = some (.slice none 0 0)) := by unfold Aside; rw [cell_of_row _ _ _ _ _ _ gX]; rfl
        have x0 : w3.cell? ⟨R, 0, none⟩ = some (.slice none 0 0) := by rw [cell_of_row _ _ _ _ _ _ r3]; rfl
        have x1 : w3.cell? ⟨R, 1, none⟩ = some (.slice none 0 0) := by rw [cell_of_row _ _ _ _ _ _ r3]; rfl
        have f0 : w3.frozen? ⟨R, 0, none⟩ = false := frozen_of_row _ _ _ _ _ r3
        have f1 : w3.frozen? ⟨R, 1, none⟩ = false := frozen_of_row _ _ _ _ _ r3
        clear g1 g2 g3 hX gX r3
        go_wp2
        rw [← HX9.out]
        have y0 := HX0.out
        have y1 := HX1.out
        refine bodyPost_ret (v := .tuple #[.agg #[.slice none 0 0, .slice none 0 0], .int .i64 6]) (by simp [results, Tryz.results57, go_sem, y0, y1]) rfl ?_
        refine ⟨_, ret_two' E.out.symm, ?_, bX⟩
        rw [EC.out.1, EC.out.2]; exact RepoOwn.none _ _
      · have hpn : pl < 0 := by omega
        have hpb : decide (0 ≤ pl) = false := by simp; omega
        by_cases h4 : n2 = 4
        · have E : Aside (M.brE C H s t = 2) := (M.brE_at HZ0.out).2.2.1 HT.out.symm (by rw [← HPl.out]; exact hpn) (by rw [HNH.out]; exact h4)
          have h4b : ((n2 : Int) == 4) = true := by simp [h4]
          clear h4 hp0
          have EC : Aside (M.brC C H s t = [] ∧ M.brH C H s t = []) := ⟨by unfold M.brC; rw [if_neg (by rw [E.out]; decide)], by unfold M.brH; rw [if_neg (by rw [E.out]; decide)]⟩
          obtain ⟨g1, g2, g3⟩ := res_set r3 (.slice none 0 0) (.slice none 0 0)
          obtain ⟨X, hX⟩ : ∃ X, X = (w3.setCell ⟨R, 0, none⟩ (.slice none 0 0)).setCell ⟨R, 1, none⟩ (.slice none 0 0) := ⟨_, rfl⟩
          rw [← hX] at g1
          have bX : Below w.heap.size w X := by rw [hX]; exact (hb3.setCell (p := ⟨R, 0, none⟩) (by show _ ≤ R; have := HPR.out; omega) _).setCell (p := ⟨R, 1, none⟩) (by show _ ≤ R; have := HPR.out; omega) _
          have gX := g1
          have HX9 : Hid (X = (w3.setCell ⟨R, 0, none⟩ (.slice none 0 0)).setCell ⟨R, 1, none⟩ (.slice none 0 0)) := hX
          have HX0 : Aside (X.cell? ⟨R, 0, none⟩ = some (.slice none 0 0)) := by unfold Aside; rw [cell_of_row _ _ _ _ _ _ gX]; rfl
          have HX1 : Aside (X.cell? ⟨R, 1, none⟩ = some (.slice none 0 0)) := by unfold Aside; rw [cell_of_row _ _ _ _ _ _ gX]; rfl
          have x0 : w3.cell? ⟨R, 0, none⟩ = some (.slice none 0 0) := by rw [cell_of_row _ _ _ _ _ _ r3]; rfl
          have x1 : w3.cell? ⟨R, 1, none⟩ = some (.slice none 0 0) := by rw [cell_of_row _ _ _ _ _ _ r3]; rfl
          have f0 : w3.frozen? ⟨R, 0, none⟩ = false := frozen_of_row _ _ _ _ _ r3
          have f1 : w3.frozen? ⟨R, 1, none⟩ = false := frozen_of_row _ _ _ _ _ r3
          clear g1 g2 g3 hX gX r3
          go_wp2
          rw [← HX9.out]
          have y0 := HX0.out
          have y1 := HX1.out
          refine bodyPost_ret (v := .tuple #[.agg #[.slice none 0 0, .slice none 0 0], .int .i64 2]) (by simp [results, Tryz.results57, go_sem, y0, y1]) rfl ?_
          refine ⟨_, ret_two' E.out.symm, ?_, bX⟩
          rw [EC.out.1, EC.out.2]; exact RepoOwn.none _ _
        · have h4b : ((n2 : Int) == 4) = false := by simp; omega
          have E0 : Aside (M.brE C H s t = 0) := (M.brE_at HZ0.out).2.2.2 HT.out.symm (by rw [← HPl.out]; exact hpn) (by rw [HNH.out]; exact h4)
          have EC : Aside (M.brC C H s t = C ∧ M.brH C H s t = M.insH (s, x) H) := ⟨by unfold M.brC; rw [if_pos E0.out], by unfold M.brH; rw [if_pos E0.out, ← HX.out]⟩
          have KO : Hid (Calls Tryz.prog 103 #[.agg #[.slice a n cap, .slice a2 n2 cap2]] w3 fun e w' => ∃ v, e = .returned v ∧ RepoOwn w' w3.heap.size v C H ∧ Below w3.heap.size w3 w') := ownRepo_any a n cap C a2 n2 cap2 H w3 (HVW.out.later bW3) hr0
          have hn4 : n2 ≤ 4 := by rw [← HNH.out]; exact (M.rchk_zero hr0).2.1
          clear h4 hp0 hpn
          go_wp2_with fail
          refine KO.out.mono ?_
          rintro e w4 ⟨v, rfl, ⟨xx, yy, rfl, ok, oh⟩, b4⟩
          obtain ⟨xa, xc, rfl, _⟩ := ok.cm
          obtain ⟨ya, yc, rfl, _⟩ := oh.hs
          obtain ⟨D, hD⟩ : ∃ D, D = w4.heap.size := ⟨_, rfl⟩
          obtain ⟨m, hm⟩ : ∃ m, m = C.length := ⟨_, rfl⟩
          rw [← hm, HNH.out]
          rw [← hm] at ok
          obtain ⟨W6, hW6⟩ : ∃ W6, W6 = w4.alloc (.cells #[.slice xa m xc, .slice none 0 0] 25) := ⟨_, rfl⟩
          have bW6 : Below w4.heap.size w4 W6 := by rw [hW6]; exact (Below.refl _ _).alloc (Nat.le_refl _) _
          have hD3 : w3.heap.size ≤ D := by rw [hD]; exact b4.size
          have B6 : BAt w4 w3.heap.size D (.slice xa m xc) (.slice none 0 0) C [] W6 := ⟨by rw [hD]; exact bW6, by rw [hW6, hD]; exact heap_alloc_new _ _, ok.later bW6, OwnH.nil _ _⟩
          have HB6 : Aside (BAt w4 w3.heap.size D (.slice xa m xc) (.slice none 0 0) C [] W6) := B6
          have HW6 : Hid (W6 = w4.alloc (.cells #[.slice xa m xc, .slice none 0 0] 25)) := hW6
          have HD : Aside (D = w4.heap.size) := hD
          have hin := M.hat_in HZ0.out
          rw [← HX.out] at hin
          have HI4 : Hid (InBox w4 p a n cap C a2 n2 cap2 H) := HI.out.below (bW3.trans (b4.mono bW3.size))
          have r4 : w4.heap[R]? = some (.cells #[.slice none 0 0, .slice none 0 0] 25 (0, 0)) := (b4.block R hRl3).trans r3
          have hRD : R < D := by omega
          have hb4 : Below w.heap.size w w4 := hb3.trans (b4.mono hb3.size)
          have HWD : Hid (w.heap.size ≤ D) := by have := hb4.size; unfold Hid; omega
          have h30 : Hid (w.heap.size ≤ w3.heap.size) := hb3.size
          clear hW6 hD ok oh hm b4 bW6 B6 KO r3 f0' f1' hin
          go_wp2_with fail
          rw [← HD.out, ← HW6.out]
          go_loopg [12, 11] n2 (fun g i dn wr => ∃ (k : Nat) (d : Bool) (y : Value) (O : List M.Hd), k + g = n2 ∧ i = .int .i64 k ∧ dn = .bool d ∧ Aside (BAt w4 w3.heap.size D (.slice xa m xc) y C O wr) ∧ Aside (M.insOk (s, x) H k d O))
          case atStart => exact ⟨0, false, _, _, by omega, rfl, rfl, HB6, M.insOk_zero _ _⟩
          case round =>
            obtain ⟨k, dn, y, O, hk, rfl, rfl, HOk, HIn⟩ := hrel
            have bel4 : Below w4.heap.size w4 wr := by have := HOk.out.bel; rw [HD.out] at this; exact this
            have J := HI4.out.below bel4
            have d1 := J.c1
            have hlt := (Array.getElem?_eq_some_iff.1 HOk.out.blk).1
            by_cases hkn : k < n2
            · have hki : (k : Int) < (n2 : Int) := by omega
              obtain ⟨b, off, rfl, hB4, nk, ak, hnk, t0, t1, hns⟩ : ∃ b off, a2 = some ⟨b, off, none⟩ ∧ b < D ∧ ∃ nk ak, H.getD k M.hd0 = (nk, ak) ∧ wr.cell? ⟨b, off + k * 2, none⟩ = some (.string nk) ∧ wr.cell? ⟨b, off + k * 2 + 1, none⟩ = some (.int .i64 ak) ∧ nk.size ≤ 9223372036854775807 := by
                obtain ⟨_, h0 | ⟨b, off, e, hB, hc⟩⟩ := HI4.out.hs
                · omega
                · obtain ⟨_, h0' | ⟨b', off', e', _, hc'⟩⟩ := J.hs
                  · omega
                  · rw [e] at e'
                    cases e'
                    exact ⟨b, off, e, by rw [HD.out]; exact hB, _, _, rfl, (hc' k hkn).1, (hc' k hkn).2.1, (hc' k hkn).2.2⟩
              have HNk : Hid (H.getD k M.hd0 = (nk, ak)) := hnk
              have HNs : Hid (nk.size ≤ 9223372036854775807) := hns
              have hkH : k < H.length := by rw [HNH.out]; exact hkn
              have HKH : Hid (k < H.length) := hkH
              have HOl : Hid (O.length ≤ 5) := by have := HIn.out.2; unfold Hid; split at this <;> omega
              obtain ⟨za, zc, rfl, _⟩ := HOk.out.h.hs
              obtain ⟨zn, hzn⟩ : ∃ zn, zn = O.length := ⟨_, rfl⟩
              rw [← hzn] at HOk
              have k1 : wr.cell? ⟨D, 1, none⟩ = some (.slice za zn zc) := by rw [cell_of_row _ _ _ _ _ _ HOk.out.blk]; rfl
              have HZn : Aside (zn = O.length) := hzn
              clear hzn hns hnk hkH J
              cases dn with
              | true =>
                clear t0 t1 k1
                have hlwr := (Array.getElem?_eq_some_iff.1 HOk.out.blk).1
                have belwr : Below w4.heap.size w4 wr := by have := HOk.out.bel; rw [HD.out] at this; exact this
                have HSV : Hid (∀ V, Below wr.heap.size wr V → V.cell? ⟨D, 1, none⟩ = some (.slice za zn zc) ∧ V.cell? ⟨p, 1, none⟩ = some (.slice (some ⟨b, off, none⟩) n2 cap2) ∧ V.cell? ⟨b, off + k * 2, none⟩ = some (.string nk) ∧ V.cell? ⟨b, off + k * 2 + 1, none⟩ = some (.int .i64 ak)) := fun V hV => by
                  have q := belwr.trans (hV.mono belwr.size)
                  have j := HI4.out.below q
                  obtain ⟨_, h0 | ⟨b', off', e', _, hc'⟩⟩ := j.hs
                  · omega
                  · cases e'
                    have hk' := hc' k hkn
                    rw [HNk.out] at hk'
                    exact ⟨by rw [World.cell?_of_block (a := ⟨D, 1, none⟩) (hV.block D hlwr), cell_of_row _ _ _ _ _ _ HOk.out.blk]; rfl, j.c1, hk'.1, hk'.2.1⟩
                have HBd : Hid (Below wr.heap.size wr wr.drew) := (Below.refl _ _).drew
                have hDw : D ≤ wr.heap.size := Nat.le_of_lt hlwr
                have HOn : Hid (((O) : List M.Hd).length = zn) := by obtain ⟨_, _, e, _⟩ := HOk.out.h.hs; simp only [Value.slice.injEq] at e; exact e.2.1.symm
                have hO9 : zn ≤ 9 := by have h1 := HOl.out; have h2 := HOn.out; first | omega | (simp only [List.length_append, List.length_cons, List.length_nil] at h2; omega)
                go_wp2_with fail
                refine wp_region_till 10 (fun V => V.cell? ⟨D, 1, none⟩ = some (.slice za zn zc) ∧ V.cell? ⟨p, 1, none⟩ = some (.slice (some ⟨b, off, none⟩) n2 cap2) ∧ V.cell? ⟨b, off + k * 2, none⟩ = some (.string nk) ∧ V.cell? ⟨b, off + k * 2 + 1, none⟩ = some (.int .i64 ak)) (by kernel_rfl) (HSV.out _ HBd.out) (fun hHeld => ?_)
                refine till_go 0 (v := .pointer (some ⟨D, 1, none⟩)) rfl (by decide) (by kernel_rfl) (by kernel_rfl) (by kernel_rfl) (fun _ _ _ h => h) (Or.inl ⟨by rfl, fun V _ => (by go_simp)⟩) hHeld ?_
                try simp only [Act.put]
                refine till_take 1 (v := .slice za zn zc) rfl (by decide) (by kernel_rfl) (by kernel_rfl) (by kernel_rfl) (by kernel_rfl) (by kernel_rfl) (fun _ _ _ h => h) (Or.inl ⟨by rfl, fun V hV => (by obtain ⟨v0, v1, v2, v3⟩ := hV; go_simp)⟩) hHeld ?_
                try simp only [Act.put]
                refine till_go 2 (v := .pointer (some ⟨p, 1, none⟩)) rfl (by decide) (by kernel_rfl) (by kernel_rfl) (by kernel_rfl) (fun _ _ _ h => h) (Or.inl ⟨by rfl, fun V _ => (by go_simp)⟩) hHeld ?_
                try simp only [Act.put]
                refine till_take 3 (v := .slice (some ⟨b, off, none⟩) n2 cap2) rfl (by decide) (by kernel_rfl) (by kernel_rfl) (by kernel_rfl) (by kernel_rfl) (by kernel_rfl) (fun _ _ _ h => h) (Or.inl ⟨by rfl, fun V hV => (by obtain ⟨v0, v1, v2, v3⟩ := hV; go_simp)⟩) hHeld ?_
                try simp only [Act.put]
                refine till_go 4 (v := .int .i64 (k : Int)) rfl (by decide) (by kernel_rfl) (by kernel_rfl) (by kernel_rfl) (fun _ _ _ h => h) (Or.inl ⟨by rfl, fun V _ => (by go_simp)⟩) hHeld ?_
                try simp only [Act.put]
                refine till_go 5 (v := .pointer (some ⟨b, off + k * 2, none⟩)) rfl (by decide) (by kernel_rfl) (by kernel_rfl) (by kernel_rfl) (fun _ _ _ h => h) (Or.inl ⟨by rfl, fun V _ => (by go_simp)⟩) hHeld ?_
                try simp only [Act.put]
                refine till_take 6 (v := .agg #[.string nk, .int .i64 ak]) rfl (by decide) (by kernel_rfl) (by kernel_rfl) (by kernel_rfl) (by kernel_rfl) (by kernel_rfl) (fun _ _ _ h => h) (Or.inl ⟨by rfl, fun V hV => (by obtain ⟨v0, v1, v2, v3⟩ := hV; go_simp)⟩) hHeld ?_
                try simp only [Act.put]
                refine till_step 7 rfl (by decide) (by kernel_rfl) (fun K hK => ?_)
                go_simp
                have pb7 : Below wr.heap.size wr (wr.alloc (.cells #[.string nk, .int .i64 ak] 71)).drew := ((Below.refl _ _).alloc (Nat.le_refl _) _).drew
                refine hK.out _ _ (HSV.out _ pb7) (fun hHeld => ?_)
                clear hK K
                refine till_step 8 rfl (by decide) (by kernel_rfl) (fun K hK => ?_)
                refine step_heads rfl _ _ rfl D _ (O) rfl (HOk.out.h.later pb7) (some ⟨wr.heap.size, 0, none⟩) 1 1 [(nk, ak)] rfl ((head_new wr nk ak HNs.out).below ((Below.refl _ _).drew) (Nat.le_refl _)) (fun h => by simp at h) (by rw [HOn.out]; omega) (Nat.le_trans hDw pb7.size) ?_
                intro v8 w8 o8 g8
                obtain ⟨qa, qc, rfl, _⟩ := o8.hs
                obtain ⟨qn, hqn⟩ : ∃ qn, qn = ((O) ++ [(nk, ak)]).length := ⟨_, rfl⟩
                rw [← hqn] at o8 ⊢
                obtain ⟨P1, P2⟩ := HOk.out.put (q := (nk, ak)) (y' := .slice qa qn qc) (.cells #[.string nk, .int .i64 ak] 71) o8 ⟨g8.os, g8.tape, g8.output, g8.size, fun k hk hne => g8.block k hk hne⟩
                have k8 : w8.cell? ⟨D, 1, none⟩ = some (.slice za zn zc) := by rw [cell_of_row _ _ _ _ _ _ P2]; rfl
                have f8 : w8.frozen? ⟨D, 1, none⟩ = false := frozen_of_row _ _ _ _ _ P2
                have pb8 : Below D wr w8 := ((Below.refl _ _).alloc hDw _).drew.trans (below_grown g8 (fun k e => (World.ownsRow.lt HOk.out.h.1 k e).1) (by simp; omega))
                have hA8 : Hid (w8.cell? ⟨D, 1, none⟩ = some (.slice za zn zc) ∧ w8.cell? ⟨p, 1, none⟩ = some (.slice (some ⟨b, off, none⟩) n2 cap2) ∧ w8.cell? ⟨b, off + k * 2, none⟩ = some (.string nk) ∧ w8.cell? ⟨b, off + k * 2 + 1, none⟩ = some (.int .i64 ak)) := by
                  have q := HSV.out _ (Below.refl _ _)
                  have hbD : b < D := hB4
                  exact ⟨k8, (pb8.cell (p := ⟨p, 1, none⟩) (by show p < D; omega)).trans q.2.1, (pb8.cell (p := ⟨b, off + k * 2, none⟩) hbD).trans q.2.2.1, (pb8.cell (p := ⟨b, off + k * 2 + 1, none⟩) hbD).trans q.2.2.2⟩
                have HE8 : Aside (BAt w4 w3.heap.size D (.slice xa m xc) (.slice qa qn qc) C ((O) ++ [(nk, ak)]) (w8.setCell ⟨D, 1, none⟩ (.slice qa qn qc))) := P1
                have HIn8 : Aside (M.insOk (s, x) H (k + 1) true ((O) ++ [(nk, ak)])) := by have := M.insOk_by HIn.out HKH.out (fun h => by cases h); rw [HNk.out] at this; exact this
                clear P1 P2 o8 g8 pb7 pb8 hqn
                refine hK.out _ _ hA8.out (fun hHeld => ?_)
                clear hK K
                refine till_go 9 (v := .pointer (some ⟨D, 1, none⟩)) rfl (by decide) (by kernel_rfl) (by kernel_rfl) (by kernel_rfl) (fun _ _ _ h => h) (Or.inl ⟨by rfl, fun V _ => (by go_simp)⟩) hHeld ?_
                try simp only [Act.put]
                refine till_last rfl (by kernel_rfl) (by kernel_rfl) (fun K hK => ?_) _
                go_simp
                refine hK.out _ _ ?_
                clear hK K
                clear hA8 HSV HBd
                go_wp2
                go_roundg (gk - 1)
                case measure => omega
                case rel => exact ⟨k + 1, true, _, _, by omega, by go_num, rfl, HE8, HIn8⟩
              | false =>
                cases ht1 : Op.bytesLess nk.toList s.toList with
                | true =>
                  have HLe : Hid (M.less (s, x).1 (H.getD k M.hd0).1 = false) := by unfold Hid; rw [HNk.out]; have := M.leq_not nk s; rw [ht1] at this; simpa using this.symm
                  clear t1 k1
                  have hlwr := (Array.getElem?_eq_some_iff.1 HOk.out.blk).1
                  have belwr : Below w4.heap.size w4 wr := by have := HOk.out.bel; rw [HD.out] at this; exact this
                  have HSV : Hid (∀ V, Below wr.heap.size wr V → V.cell? ⟨D, 1, none⟩ = some (.slice za zn zc) ∧ V.cell? ⟨p, 1, none⟩ = some (.slice (some ⟨b, off, none⟩) n2 cap2) ∧ V.cell? ⟨b, off + k * 2, none⟩ = some (.string nk) ∧ V.cell? ⟨b, off + k * 2 + 1, none⟩ = some (.int .i64 ak)) := fun V hV => by
                    have q := belwr.trans (hV.mono belwr.size)
                    have j := HI4.out.below q
                    obtain ⟨_, h0 | ⟨b', off', e', _, hc'⟩⟩ := j.hs
                    · omega
                    · cases e'
                      have hk' := hc' k hkn
                      rw [HNk.out] at hk'
                      exact ⟨by rw [World.cell?_of_block (a := ⟨D, 1, none⟩) (hV.block D hlwr), cell_of_row _ _ _ _ _ _ HOk.out.blk]; rfl, j.c1, hk'.1, hk'.2.1⟩
                  have HBd : Hid (Below wr.heap.size wr wr.drew) := (Below.refl _ _).drew
                  have hDw : D ≤ wr.heap.size := Nat.le_of_lt hlwr
                  have HOn : Hid (((O) : List M.Hd).length = zn) := by obtain ⟨_, _, e, _⟩ := HOk.out.h.hs; simp only [Value.slice.injEq] at e; exact e.2.1.symm
                  have hO9 : zn ≤ 9 := by have h1 := HOl.out; have h2 := HOn.out; first | omega | (simp only [List.length_append, List.length_cons, List.length_nil] at h2; omega)
                  go_wp2_with fail
                  refine wp_region_till 10 (fun V => V.cell? ⟨D, 1, none⟩ = some (.slice za zn zc) ∧ V.cell? ⟨p, 1, none⟩ = some (.slice (some ⟨b, off, none⟩) n2 cap2) ∧ V.cell? ⟨b, off + k * 2, none⟩ = some (.string nk) ∧ V.cell? ⟨b, off + k * 2 + 1, none⟩ = some (.int .i64 ak)) (by kernel_rfl) (HSV.out _ HBd.out) (fun hHeld => ?_)
                  refine till_go 0 (v := .pointer (some ⟨D, 1, none⟩)) rfl (by decide) (by kernel_rfl) (by kernel_rfl) (by kernel_rfl) (fun _ _ _ h => h) (Or.inl ⟨by rfl, fun V _ => (by go_simp)⟩) hHeld ?_
                  try simp only [Act.put]
                  refine till_take 1 (v := .slice za zn zc) rfl (by decide) (by kernel_rfl) (by kernel_rfl) (by kernel_rfl) (by kernel_rfl) (by kernel_rfl) (fun _ _ _ h => h) (Or.inl ⟨by rfl, fun V hV => (by obtain ⟨v0, v1, v2, v3⟩ := hV; go_simp)⟩) hHeld ?_
                  try simp only [Act.put]
                  refine till_go 2 (v := .pointer (some ⟨p, 1, none⟩)) rfl (by decide) (by kernel_rfl) (by kernel_rfl) (by kernel_rfl) (fun _ _ _ h => h) (Or.inl ⟨by rfl, fun V _ => (by go_simp)⟩) hHeld ?_
                  try simp only [Act.put]
                  refine till_take 3 (v := .slice (some ⟨b, off, none⟩) n2 cap2) rfl (by decide) (by kernel_rfl) (by kernel_rfl) (by kernel_rfl) (by kernel_rfl) (by kernel_rfl) (fun _ _ _ h => h) (Or.inl ⟨by rfl, fun V hV => (by obtain ⟨v0, v1, v2, v3⟩ := hV; go_simp)⟩) hHeld ?_
                  try simp only [Act.put]
                  refine till_go 4 (v := .int .i64 (k : Int)) rfl (by decide) (by kernel_rfl) (by kernel_rfl) (by kernel_rfl) (fun _ _ _ h => h) (Or.inl ⟨by rfl, fun V _ => (by go_simp)⟩) hHeld ?_
                  try simp only [Act.put]
                  refine till_go 5 (v := .pointer (some ⟨b, off + k * 2, none⟩)) rfl (by decide) (by kernel_rfl) (by kernel_rfl) (by kernel_rfl) (fun _ _ _ h => h) (Or.inl ⟨by rfl, fun V _ => (by go_simp)⟩) hHeld ?_
                  try simp only [Act.put]
                  refine till_take 6 (v := .agg #[.string nk, .int .i64 ak]) rfl (by decide) (by kernel_rfl) (by kernel_rfl) (by kernel_rfl) (by kernel_rfl) (by kernel_rfl) (fun _ _ _ h => h) (Or.inl ⟨by rfl, fun V hV => (by obtain ⟨v0, v1, v2, v3⟩ := hV; go_simp)⟩) hHeld ?_
                  try simp only [Act.put]
                  refine till_step 7 rfl (by decide) (by kernel_rfl) (fun K hK => ?_)
                  go_simp
                  have pb7 : Below wr.heap.size wr (wr.alloc (.cells #[.string nk, .int .i64 ak] 71)).drew := ((Below.refl _ _).alloc (Nat.le_refl _) _).drew
                  refine hK.out _ _ (HSV.out _ pb7) (fun hHeld => ?_)
                  clear hK K
                  refine till_step 8 rfl (by decide) (by kernel_rfl) (fun K hK => ?_)
                  refine step_heads rfl _ _ rfl D _ (O) rfl (HOk.out.h.later pb7) (some ⟨wr.heap.size, 0, none⟩) 1 1 [(nk, ak)] rfl ((head_new wr nk ak HNs.out).below ((Below.refl _ _).drew) (Nat.le_refl _)) (fun h => by simp at h) (by rw [HOn.out]; omega) (Nat.le_trans hDw pb7.size) ?_
                  intro v8 w8 o8 g8
                  obtain ⟨qa, qc, rfl, _⟩ := o8.hs
                  obtain ⟨qn, hqn⟩ : ∃ qn, qn = ((O) ++ [(nk, ak)]).length := ⟨_, rfl⟩
                  rw [← hqn] at o8 ⊢
                  obtain ⟨P1, P2⟩ := HOk.out.put (q := (nk, ak)) (y' := .slice qa qn qc) (.cells #[.string nk, .int .i64 ak] 71) o8 ⟨g8.os, g8.tape, g8.output, g8.size, fun k hk hne => g8.block k hk hne⟩
                  have k8 : w8.cell? ⟨D, 1, none⟩ = some (.slice za zn zc) := by rw [cell_of_row _ _ _ _ _ _ P2]; rfl
                  have f8 : w8.frozen? ⟨D, 1, none⟩ = false := frozen_of_row _ _ _ _ _ P2
                  have pb8 : Below D wr w8 := ((Below.refl _ _).alloc hDw _).drew.trans (below_grown g8 (fun k e => (World.ownsRow.lt HOk.out.h.1 k e).1) (by simp; omega))
                  have hA8 : Hid (w8.cell? ⟨D, 1, none⟩ = some (.slice za zn zc) ∧ w8.cell? ⟨p, 1, none⟩ = some (.slice (some ⟨b, off, none⟩) n2 cap2) ∧ w8.cell? ⟨b, off + k * 2, none⟩ = some (.string nk) ∧ w8.cell? ⟨b, off + k * 2 + 1, none⟩ = some (.int .i64 ak)) := by
                    have q := HSV.out _ (Below.refl _ _)
                    have hbD : b < D := hB4
                    exact ⟨k8, (pb8.cell (p := ⟨p, 1, none⟩) (by show p < D; omega)).trans q.2.1, (pb8.cell (p := ⟨b, off + k * 2, none⟩) hbD).trans q.2.2.1, (pb8.cell (p := ⟨b, off + k * 2 + 1, none⟩) hbD).trans q.2.2.2⟩
                  have HE8 : Aside (BAt w4 w3.heap.size D (.slice xa m xc) (.slice qa qn qc) C ((O) ++ [(nk, ak)]) (w8.setCell ⟨D, 1, none⟩ (.slice qa qn qc))) := P1
                  have HIn8 : Aside (M.insOk (s, x) H (k + 1) false ((O) ++ [(nk, ak)])) := by have := M.insOk_by HIn.out HKH.out (fun _ => HLe.out); rw [HNk.out] at this; exact this
                  clear P1 P2 o8 g8 pb7 pb8 hqn
                  refine hK.out _ _ hA8.out (fun hHeld => ?_)
                  clear hK K
                  refine till_go 9 (v := .pointer (some ⟨D, 1, none⟩)) rfl (by decide) (by kernel_rfl) (by kernel_rfl) (by kernel_rfl) (fun _ _ _ h => h) (Or.inl ⟨by rfl, fun V _ => (by go_simp)⟩) hHeld ?_
                  try simp only [Act.put]
                  refine till_last rfl (by kernel_rfl) (by kernel_rfl) (fun K hK => ?_) _
                  go_simp
                  refine hK.out _ _ ?_
                  clear hK K
                  clear hA8 HSV HBd
                  go_wp2
                  go_roundg (gk - 1)
                  case measure => omega
                  case rel => exact ⟨k + 1, false, _, _, by omega, by go_num, rfl, HE8, HIn8⟩
                | false =>
                  cases ht2 : nk.toList == s.toList with
                  | true =>
                      have HLe : Hid (M.less (s, x).1 (H.getD k M.hd0).1 = false) := by unfold Hid; rw [HNk.out]; have := M.leq_not nk s; rw [ht1, ht2] at this; simpa using this.symm
                      clear t1 k1
                      have hlwr := (Array.getElem?_eq_some_iff.1 HOk.out.blk).1
                      have belwr : Below w4.heap.size w4 wr := by have := HOk.out.bel; rw [HD.out] at this; exact this
                      have HSV : Hid (∀ V, Below wr.heap.size wr V → V.cell? ⟨D, 1, none⟩ = some (.slice za zn zc) ∧ V.cell? ⟨p, 1, none⟩ = some (.slice (some ⟨b, off, none⟩) n2 cap2) ∧ V.cell? ⟨b, off + k * 2, none⟩ = some (.string nk) ∧ V.cell? ⟨b, off + k * 2 + 1, none⟩ = some (.int .i64 ak)) := fun V hV => by
                        have q := belwr.trans (hV.mono belwr.size)
                        have j := HI4.out.below q
                        obtain ⟨_, h0 | ⟨b', off', e', _, hc'⟩⟩ := j.hs
                        · omega
                        · cases e'
                          have hk' := hc' k hkn
                          rw [HNk.out] at hk'
                          exact ⟨by rw [World.cell?_of_block (a := ⟨D, 1, none⟩) (hV.block D hlwr), cell_of_row _ _ _ _ _ _ HOk.out.blk]; rfl, j.c1, hk'.1, hk'.2.1⟩
                      have HBd : Hid (Below wr.heap.size wr wr.drew) := (Below.refl _ _).drew
                      have hDw : D ≤ wr.heap.size := Nat.le_of_lt hlwr
                      have HOn : Hid (((O) : List M.Hd).length = zn) := by obtain ⟨_, _, e, _⟩ := HOk.out.h.hs; simp only [Value.slice.injEq] at e; exact e.2.1.symm
                      have hO9 : zn ≤ 9 := by have h1 := HOl.out; have h2 := HOn.out; first | omega | (simp only [List.length_append, List.length_cons, List.length_nil] at h2; omega)
                      go_wp2_with fail
                      refine wp_region_till 10 (fun V => V.cell? ⟨D, 1, none⟩ = some (.slice za zn zc) ∧ V.cell? ⟨p, 1, none⟩ = some (.slice (some ⟨b, off, none⟩) n2 cap2) ∧ V.cell? ⟨b, off + k * 2, none⟩ = some (.string nk) ∧ V.cell? ⟨b, off + k * 2 + 1, none⟩ = some (.int .i64 ak)) (by kernel_rfl) (HSV.out _ HBd.out) (fun hHeld => ?_)
                      refine till_go 0 (v := .pointer (some ⟨D, 1, none⟩)) rfl (by decide) (by kernel_rfl) (by kernel_rfl) (by kernel_rfl) (fun _ _ _ h => h) (Or.inl ⟨by rfl, fun V _ => (by go_simp)⟩) hHeld ?_
                      try simp only [Act.put]
                      refine till_take 1 (v := .slice za zn zc) rfl (by decide) (by kernel_rfl) (by kernel_rfl) (by kernel_rfl) (by kernel_rfl) (by kernel_rfl) (fun _ _ _ h => h) (Or.inl ⟨by rfl, fun V hV => (by obtain ⟨v0, v1, v2, v3⟩ := hV; go_simp)⟩) hHeld ?_
                      try simp only [Act.put]
                      refine till_go 2 (v := .pointer (some ⟨p, 1, none⟩)) rfl (by decide) (by kernel_rfl) (by kernel_rfl) (by kernel_rfl) (fun _ _ _ h => h) (Or.inl ⟨by rfl, fun V _ => (by go_simp)⟩) hHeld ?_
                      try simp only [Act.put]
                      refine till_take 3 (v := .slice (some ⟨b, off, none⟩) n2 cap2) rfl (by decide) (by kernel_rfl) (by kernel_rfl) (by kernel_rfl) (by kernel_rfl) (by kernel_rfl) (fun _ _ _ h => h) (Or.inl ⟨by rfl, fun V hV => (by obtain ⟨v0, v1, v2, v3⟩ := hV; go_simp)⟩) hHeld ?_
                      try simp only [Act.put]
                      refine till_go 4 (v := .int .i64 (k : Int)) rfl (by decide) (by kernel_rfl) (by kernel_rfl) (by kernel_rfl) (fun _ _ _ h => h) (Or.inl ⟨by rfl, fun V _ => (by go_simp)⟩) hHeld ?_
                      try simp only [Act.put]
                      refine till_go 5 (v := .pointer (some ⟨b, off + k * 2, none⟩)) rfl (by decide) (by kernel_rfl) (by kernel_rfl) (by kernel_rfl) (fun _ _ _ h => h) (Or.inl ⟨by rfl, fun V _ => (by go_simp)⟩) hHeld ?_
                      try simp only [Act.put]
                      refine till_take 6 (v := .agg #[.string nk, .int .i64 ak]) rfl (by decide) (by kernel_rfl) (by kernel_rfl) (by kernel_rfl) (by kernel_rfl) (by kernel_rfl) (fun _ _ _ h => h) (Or.inl ⟨by rfl, fun V hV => (by obtain ⟨v0, v1, v2, v3⟩ := hV; go_simp)⟩) hHeld ?_
                      try simp only [Act.put]
                      refine till_step 7 rfl (by decide) (by kernel_rfl) (fun K hK => ?_)
                      go_simp
                      have pb7 : Below wr.heap.size wr (wr.alloc (.cells #[.string nk, .int .i64 ak] 71)).drew := ((Below.refl _ _).alloc (Nat.le_refl _) _).drew
                      refine hK.out _ _ (HSV.out _ pb7) (fun hHeld => ?_)
                      clear hK K
                      refine till_step 8 rfl (by decide) (by kernel_rfl) (fun K hK => ?_)
                      refine step_heads rfl _ _ rfl D _ (O) rfl (HOk.out.h.later pb7) (some ⟨wr.heap.size, 0, none⟩) 1 1 [(nk, ak)] rfl ((head_new wr nk ak HNs.out).below ((Below.refl _ _).drew) (Nat.le_refl _)) (fun h => by simp at h) (by rw [HOn.out]; omega) (Nat.le_trans hDw pb7.size) ?_
                      intro v8 w8 o8 g8
                      obtain ⟨qa, qc, rfl, _⟩ := o8.hs
                      obtain ⟨qn, hqn⟩ : ∃ qn, qn = ((O) ++ [(nk, ak)]).length := ⟨_, rfl⟩
                      rw [← hqn] at o8 ⊢
                      obtain ⟨P1, P2⟩ := HOk.out.put (q := (nk, ak)) (y' := .slice qa qn qc) (.cells #[.string nk, .int .i64 ak] 71) o8 ⟨g8.os, g8.tape, g8.output, g8.size, fun k hk hne => g8.block k hk hne⟩
                      have k8 : w8.cell? ⟨D, 1, none⟩ = some (.slice za zn zc) := by rw [cell_of_row _ _ _ _ _ _ P2]; rfl
                      have f8 : w8.frozen? ⟨D, 1, none⟩ = false := frozen_of_row _ _ _ _ _ P2
                      have pb8 : Below D wr w8 := ((Below.refl _ _).alloc hDw _).drew.trans (below_grown g8 (fun k e => (World.ownsRow.lt HOk.out.h.1 k e).1) (by simp; omega))
                      have hA8 : Hid (w8.cell? ⟨D, 1, none⟩ = some (.slice za zn zc) ∧ w8.cell? ⟨p, 1, none⟩ = some (.slice (some ⟨b, off, none⟩) n2 cap2) ∧ w8.cell? ⟨b, off + k * 2, none⟩ = some (.string nk) ∧ w8.cell? ⟨b, off + k * 2 + 1, none⟩ = some (.int .i64 ak)) := by
                        have q := HSV.out _ (Below.refl _ _)
                        have hbD : b < D := hB4
                        exact ⟨k8, (pb8.cell (p := ⟨p, 1, none⟩) (by show p < D; omega)).trans q.2.1, (pb8.cell (p := ⟨b, off + k * 2, none⟩) hbD).trans q.2.2.1, (pb8.cell (p := ⟨b, off + k * 2 + 1, none⟩) hbD).trans q.2.2.2⟩
                      have HE8 : Aside (BAt w4 w3.heap.size D (.slice xa m xc) (.slice qa qn qc) C ((O) ++ [(nk, ak)]) (w8.setCell ⟨D, 1, none⟩ (.slice qa qn qc))) := P1
                      have HIn8 : Aside (M.insOk (s, x) H (k + 1) false ((O) ++ [(nk, ak)])) := by have := M.insOk_by HIn.out HKH.out (fun _ => HLe.out); rw [HNk.out] at this; exact this
                      clear P1 P2 o8 g8 pb7 pb8 hqn
                      refine hK.out _ _ hA8.out (fun hHeld => ?_)
                      clear hK K
                      refine till_go 9 (v := .pointer (some ⟨D, 1, none⟩)) rfl (by decide) (by kernel_rfl) (by kernel_rfl) (by kernel_rfl) (fun _ _ _ h => h) (Or.inl ⟨by rfl, fun V _ => (by go_simp)⟩) hHeld ?_
                      try simp only [Act.put]
                      refine till_last rfl (by kernel_rfl) (by kernel_rfl) (fun K hK => ?_) _
                      go_simp
                      refine hK.out _ _ ?_
                      clear hK K
                      clear hA8 HSV HBd
                      go_wp2
                      go_roundg (gk - 1)
                      case measure => omega
                      case rel => exact ⟨k + 1, false, _, _, by omega, by go_num, rfl, HE8, HIn8⟩
                  | false =>
                      have HLe : Hid (M.less (s, x).1 (H.getD k M.hd0).1 = true) := by unfold Hid; rw [HNk.out]; have := M.leq_not nk s; rw [ht1, ht2] at this; simpa using this.symm
                      have HOA : Hid (OwnH (wr.alloc (.cells #[.string s, .int .i64 x] 71)) D (.slice za zn zc) O) := HOk.out.h.later ((Below.refl _ _).alloc (Nat.le_refl _) _)
                      have HHN : Hid (Hs (wr.alloc (.cells #[.string s, .int .i64 x] 71)) (some ⟨wr.heap.size, 0, none⟩) 1 [(s, x)]) := head_new wr s x hss
                      have hzn5 : O.length + 1 ≤ 1000000 := by have := HOl.out; omega
                      have hDa : D ≤ (wr.alloc (.cells #[.string s, .int .i64 x] 71)).heap.size := by simp; omega
                      clear t1
                      go_wp2_with (at_builtin; refine wpl_heads rfl _ _ rfl D _ O rfl HOA.out (some ⟨wr.heap.size, 0, none⟩) 1 1 [(s, x)] rfl HHN.out (fun h => by simp at h) hzn5 hDa ?_)
                      intro v7 w7 o7 g7
                      obtain ⟨ra7, rc7, rfl, _⟩ := o7.hs
                      obtain ⟨rn7, hrn7⟩ : ∃ rn, rn = (O ++ [(s, x)]).length := ⟨_, rfl⟩
                      rw [← hrn7] at o7 ⊢
                      obtain ⟨P1, P2⟩ := HOk.out.put (q := (s, x)) (y' := .slice ra7 rn7 rc7) _ o7 g7
                      have k7 : w7.cell? ⟨D, 1, none⟩ = some (.slice za zn zc) := by rw [cell_of_row _ _ _ _ _ _ P2]; rfl
                      have f7 : w7.frozen? ⟨D, 1, none⟩ = false := frozen_of_row _ _ _ _ _ P2
                      obtain ⟨W8, hW8⟩ : ∃ W8, W8 = w7.setCell ⟨D, 1, none⟩ (.slice ra7 rn7 rc7) := ⟨_, rfl⟩
                      rw [← hW8] at P1
                      have HO8 : Aside (BAt w4 w3.heap.size D (.slice xa m xc) (.slice ra7 rn7 rc7) C (O ++ [(s, x)]) W8) := P1
                      have HW8 : Hid (W8 = w7.setCell ⟨D, 1, none⟩ (.slice ra7 rn7 rc7)) := hW8
                      clear hW8 P1 P2 o7 g7 hrn7 k1 t0 HOA HHN
                      go_wp2_with fail
                      rw [← HW8.out]
                      clear k7 f7
                      have hlW8 := (Array.getElem?_eq_some_iff.1 HO8.out.blk).1
                      have belW8 : Below w4.heap.size w4 W8 := by have := HO8.out.bel; rw [HD.out] at this; exact this
                      have HSV : Hid (∀ V, Below W8.heap.size W8 V → V.cell? ⟨D, 1, none⟩ = some (.slice ra7 rn7 rc7) ∧ V.cell? ⟨p, 1, none⟩ = some (.slice (some ⟨b, off, none⟩) n2 cap2) ∧ V.cell? ⟨b, off + k * 2, none⟩ = some (.string nk) ∧ V.cell? ⟨b, off + k * 2 + 1, none⟩ = some (.int .i64 ak)) := fun V hV => by
                        have q := belW8.trans (hV.mono belW8.size)
                        have j := HI4.out.below q
                        obtain ⟨_, h0 | ⟨b', off', e', _, hc'⟩⟩ := j.hs
                        · omega
                        · cases e'
                          have hk' := hc' k hkn
                          rw [HNk.out] at hk'
                          exact ⟨by rw [World.cell?_of_block (a := ⟨D, 1, none⟩) (hV.block D hlW8), cell_of_row _ _ _ _ _ _ HO8.out.blk]; rfl, j.c1, hk'.1, hk'.2.1⟩
                      have HBd : Hid (Below W8.heap.size W8 W8.drew) := (Below.refl _ _).drew
                      have hDw : D ≤ W8.heap.size := Nat.le_of_lt hlW8
                      have HOn : Hid (((O ++ [(s, x)]) : List M.Hd).length = rn7) := by obtain ⟨_, _, e, _⟩ := HO8.out.h.hs; simp only [Value.slice.injEq] at e; exact e.2.1.symm
                      have hO9 : rn7 ≤ 9 := by have h1 := HOl.out; have h2 := HOn.out; first | omega | (simp only [List.length_append, List.length_cons, List.length_nil] at h2; omega)
                      go_wp2_with fail
                      refine wp_region_till 10 (fun V => V.cell? ⟨D, 1, none⟩ = some (.slice ra7 rn7 rc7) ∧ V.cell? ⟨p, 1, none⟩ = some (.slice (some ⟨b, off, none⟩) n2 cap2) ∧ V.cell? ⟨b, off + k * 2, none⟩ = some (.string nk) ∧ V.cell? ⟨b, off + k * 2 + 1, none⟩ = some (.int .i64 ak)) (by kernel_rfl) (HSV.out _ HBd.out) (fun hHeld => ?_)
                      refine till_go 0 (v := .pointer (some ⟨D, 1, none⟩)) rfl (by decide) (by kernel_rfl) (by kernel_rfl) (by kernel_rfl) (fun _ _ _ h => h) (Or.inl ⟨by rfl, fun V _ => (by go_simp)⟩) hHeld ?_
                      try simp only [Act.put]
                      refine till_take 1 (v := .slice ra7 rn7 rc7) rfl (by decide) (by kernel_rfl) (by kernel_rfl) (by kernel_rfl) (by kernel_rfl) (by kernel_rfl) (fun _ _ _ h => h) (Or.inl ⟨by rfl, fun V hV => (by obtain ⟨v0, v1, v2, v3⟩ := hV; go_simp)⟩) hHeld ?_
                      try simp only [Act.put]
                      refine till_go 2 (v := .pointer (some ⟨p, 1, none⟩)) rfl (by decide) (by kernel_rfl) (by kernel_rfl) (by kernel_rfl) (fun _ _ _ h => h) (Or.inl ⟨by rfl, fun V _ => (by go_simp)⟩) hHeld ?_
                      try simp only [Act.put]
                      refine till_take 3 (v := .slice (some ⟨b, off, none⟩) n2 cap2) rfl (by decide) (by kernel_rfl) (by kernel_rfl) (by kernel_rfl) (by kernel_rfl) (by kernel_rfl) (fun _ _ _ h => h) (Or.inl ⟨by rfl, fun V hV => (by obtain ⟨v0, v1, v2, v3⟩ := hV; go_simp)⟩) hHeld ?_
                      try simp only [Act.put]
                      refine till_go 4 (v := .int .i64 (k : Int)) rfl (by decide) (by kernel_rfl) (by kernel_rfl) (by kernel_rfl) (fun _ _ _ h => h) (Or.inl ⟨by rfl, fun V _ => (by go_simp)⟩) hHeld ?_
                      try simp only [Act.put]
                      refine till_go 5 (v := .pointer (some ⟨b, off + k * 2, none⟩)) rfl (by decide) (by kernel_rfl) (by kernel_rfl) (by kernel_rfl) (fun _ _ _ h => h) (Or.inl ⟨by rfl, fun V _ => (by go_simp)⟩) hHeld ?_
                      try simp only [Act.put]
                      refine till_take 6 (v := .agg #[.string nk, .int .i64 ak]) rfl (by decide) (by kernel_rfl) (by kernel_rfl) (by kernel_rfl) (by kernel_rfl) (by kernel_rfl) (fun _ _ _ h => h) (Or.inl ⟨by rfl, fun V hV => (by obtain ⟨v0, v1, v2, v3⟩ := hV; go_simp)⟩) hHeld ?_
                      try simp only [Act.put]
                      refine till_step 7 rfl (by decide) (by kernel_rfl) (fun K hK => ?_)
                      go_simp
                      have pb7 : Below W8.heap.size W8 (W8.alloc (.cells #[.string nk, .int .i64 ak] 71)).drew := ((Below.refl _ _).alloc (Nat.le_refl _) _).drew
                      refine hK.out _ _ (HSV.out _ pb7) (fun hHeld => ?_)
                      clear hK K
                      refine till_step 8 rfl (by decide) (by kernel_rfl) (fun K hK => ?_)
                      refine step_heads rfl _ _ rfl D _ (O ++ [(s, x)]) rfl (HO8.out.h.later pb7) (some ⟨W8.heap.size, 0, none⟩) 1 1 [(nk, ak)] rfl ((head_new W8 nk ak HNs.out).below ((Below.refl _ _).drew) (Nat.le_refl _)) (fun h => by simp at h) (by rw [HOn.out]; omega) (Nat.le_trans hDw pb7.size) ?_
                      intro v8 w8 o8 g8
                      obtain ⟨qa, qc, rfl, _⟩ := o8.hs
                      obtain ⟨qn, hqn⟩ : ∃ qn, qn = ((O ++ [(s, x)]) ++ [(nk, ak)]).length := ⟨_, rfl⟩
                      rw [← hqn] at o8 ⊢
                      obtain ⟨P1, P2⟩ := HO8.out.put (q := (nk, ak)) (y' := .slice qa qn qc) (.cells #[.string nk, .int .i64 ak] 71) o8 ⟨g8.os, g8.tape, g8.output, g8.size, fun k hk hne => g8.block k hk hne⟩
                      have k8 : w8.cell? ⟨D, 1, none⟩ = some (.slice ra7 rn7 rc7) := by rw [cell_of_row _ _ _ _ _ _ P2]; rfl
                      have f8 : w8.frozen? ⟨D, 1, none⟩ = false := frozen_of_row _ _ _ _ _ P2
                      have pb8 : Below D W8 w8 := ((Below.refl _ _).alloc hDw _).drew.trans (below_grown g8 (fun k e => (World.ownsRow.lt HO8.out.h.1 k e).1) (by simp; omega))
                      have hA8 : Hid (w8.cell? ⟨D, 1, none⟩ = some (.slice ra7 rn7 rc7) ∧ w8.cell? ⟨p, 1, none⟩ = some (.slice (some ⟨b, off, none⟩) n2 cap2) ∧ w8.cell? ⟨b, off + k * 2, none⟩ = some (.string nk) ∧ w8.cell? ⟨b, off + k * 2 + 1, none⟩ = some (.int .i64 ak)) := by
                        have q := HSV.out _ (Below.refl _ _)
                        have hbD : b < D := hB4
                        exact ⟨k8, (pb8.cell (p := ⟨p, 1, none⟩) (by show p < D; omega)).trans q.2.1, (pb8.cell (p := ⟨b, off + k * 2, none⟩) hbD).trans q.2.2.1, (pb8.cell (p := ⟨b, off + k * 2 + 1, none⟩) hbD).trans q.2.2.2⟩
                      have HE8 : Aside (BAt w4 w3.heap.size D (.slice xa m xc) (.slice qa qn qc) C ((O ++ [(s, x)]) ++ [(nk, ak)]) (w8.setCell ⟨D, 1, none⟩ (.slice qa qn qc))) := P1
                      have HIn8 : Aside (M.insOk (s, x) H (k + 1) true ((O ++ [(s, x)]) ++ [(nk, ak)])) := by have := M.insOk_in HIn.out HKH.out HLe.out; rw [HNk.out] at this; exact this
                      clear P1 P2 o8 g8 pb7 pb8 hqn
                      refine hK.out _ _ hA8.out (fun hHeld => ?_)
                      clear hK K
                      refine till_go 9 (v := .pointer (some ⟨D, 1, none⟩)) rfl (by decide) (by kernel_rfl) (by kernel_rfl) (by kernel_rfl) (fun _ _ _ h => h) (Or.inl ⟨by rfl, fun V _ => (by go_simp)⟩) hHeld ?_
                      try simp only [Act.put]
                      refine till_last rfl (by kernel_rfl) (by kernel_rfl) (fun K hK => ?_) _
                      go_simp
                      refine hK.out _ _ ?_
                      clear hK K
                      clear hA8 HSV HBd
                      go_wp2
                      go_roundg (gk - 1)
                      case measure => omega
                      case rel => exact ⟨k + 1, true, _, _, by omega, by go_num, rfl, HE8, HIn8⟩
            · obtain rfl : k = n2 := by omega
              have hkk2 : decide ((k : Int) < (k : Int)) = false := by simp
              obtain ⟨za, zc, rfl, _⟩ := HOk.out.h.hs
              obtain ⟨zn, hzn⟩ : ∃ zn, zn = O.length := ⟨_, rfl⟩
              rw [← hzn] at HOk
              have hIe := HIn.out
              rw [← HNH.out] at hIe
              have HIe : Hid ((if dn = true then O else O ++ [(s, x)]) = M.insH (s, x) H) := M.insOk_end hIe
              have HOl : Hid (O.length ≤ 5) := by have := HIn.out.2; unfold Hid; split at this <;> omega
              clear hIe hzn J
              cases dn with
              | true =>
                have HEq : Hid (O = M.insH (s, x) H) := HIe.out
                have r9 : wr.heap[R]? = some (.cells #[.slice none 0 0, .slice none 0 0] 25 (0, 0)) := (HOk.out.bel.block R hRD).trans r4
                have hb9 : Below w.heap.size w wr := hb4.trans (HOk.out.bel.mono HWD.out)
                have e0' : wr.cell? ⟨D, 0, none⟩ = some (.slice xa m xc) := by rw [cell_of_row _ _ _ _ _ _ HOk.out.blk]; rfl
                have e1' : wr.cell? ⟨D, 1, none⟩ = some (.slice za zn zc) := by rw [cell_of_row _ _ _ _ _ _ HOk.out.blk]; rfl
                have HRO : Aside (RepoOwn ((wr.setCell ⟨R, 0, none⟩ (.slice xa m xc)).setCell ⟨R, 1, none⟩ (.slice za zn zc)) w.heap.size (.agg #[.slice xa m xc, .slice za zn zc]) (M.brC C H s t) (M.brH C H s t)) := by unfold Aside; rw [EC.out.1, EC.out.2, ← HEq.out]; exact (repoOwn_set r9 HOk.out.k (HOk.out.h.lower hD3)).lower h30.out
                obtain ⟨g1, g2, g3⟩ := res_set r9 (.slice xa m xc) (.slice za zn zc)
                obtain ⟨X, hX⟩ : ∃ X, X = (wr.setCell ⟨R, 0, none⟩ (.slice xa m xc)).setCell ⟨R, 1, none⟩ (.slice za zn zc) := ⟨_, rfl⟩
                rw [← hX] at g1 HRO
                have bX : Below w.heap.size w X := by rw [hX]; exact (hb9.setCell (p := ⟨R, 0, none⟩) (by show _ ≤ R; have := HPR.out; omega) _).setCell (p := ⟨R, 1, none⟩) (by show _ ≤ R; have := HPR.out; omega) _
                have HX9 : Hid (X = (wr.setCell ⟨R, 0, none⟩ (.slice xa m xc)).setCell ⟨R, 1, none⟩ (.slice za zn zc)) := hX
                have HX0 : Aside (X.cell? ⟨R, 0, none⟩ = some (.slice xa m xc)) := by unfold Aside; rw [cell_of_row _ _ _ _ _ _ g1]; rfl
                have HX1 : Aside (X.cell? ⟨R, 1, none⟩ = some (.slice za zn zc)) := by unfold Aside; rw [cell_of_row _ _ _ _ _ _ g1]; rfl
                have x0' : wr.cell? ⟨R, 0, none⟩ = some (.slice none 0 0) := by rw [cell_of_row _ _ _ _ _ _ r9]; rfl
                have x1' : wr.cell? ⟨R, 1, none⟩ = some (.slice none 0 0) := by rw [cell_of_row _ _ _ _ _ _ r9]; rfl
                have f0' : wr.frozen? ⟨R, 0, none⟩ = false := frozen_of_row _ _ _ _ _ r9
                have f1' : wr.frozen? ⟨R, 1, none⟩ = false := frozen_of_row _ _ _ _ _ r9
                clear g1 g2 g3 hX r9
                go_wp2
                rw [← HX9.out]
                have y0 := HX0.out
                have y1 := HX1.out
                refine bodyPost_ret (v := .tuple #[.agg #[.slice xa m xc, .slice za zn zc], .int .i64 0]) (by simp [results, Tryz.results57, go_sem, y0, y1]) rfl ?_
                exact ⟨_, ret_two' E0.out.symm, HRO.out, bX⟩
              | false =>
                have HEq : Hid (O ++ [(s, x)] = M.insH (s, x) H) := HIe.out
                have k1 : wr.cell? ⟨D, 1, none⟩ = some (.slice za zn zc) := by rw [cell_of_row _ _ _ _ _ _ HOk.out.blk]; rfl
                have HOA : Hid (OwnH (wr.alloc (.cells #[.string s, .int .i64 x] 71)) D (.slice za zn zc) O) := HOk.out.h.later ((Below.refl _ _).alloc (Nat.le_refl _) _)
                have HHN : Hid (Hs (wr.alloc (.cells #[.string s, .int .i64 x] 71)) (some ⟨wr.heap.size, 0, none⟩) 1 [(s, x)]) := head_new wr s x hss
                have hzn5 : O.length + 1 ≤ 1000000 := by have := HOl.out; omega
                have hDa : D ≤ (wr.alloc (.cells #[.string s, .int .i64 x] 71)).heap.size := by simp; omega
                go_wp2_with (at_builtin; refine wpl_heads rfl _ _ rfl D _ O rfl HOA.out (some ⟨wr.heap.size, 0, none⟩) 1 1 [(s, x)] rfl HHN.out (fun h => by simp at h) hzn5 hDa ?_)
                intro v7 w7 o7 g7
                obtain ⟨ra7, rc7, rfl, _⟩ := o7.hs
                obtain ⟨rn7, hrn7⟩ : ∃ rn, rn = (O ++ [(s, x)]).length := ⟨_, rfl⟩
                rw [← hrn7] at o7 ⊢
                obtain ⟨P1, P2⟩ := HOk.out.put (q := (s, x)) (y' := .slice ra7 rn7 rc7) _ o7 g7
                have k7 : w7.cell? ⟨D, 1, none⟩ = some (.slice za zn zc) := by rw [cell_of_row _ _ _ _ _ _ P2]; rfl
                have f7 : w7.frozen? ⟨D, 1, none⟩ = false := frozen_of_row _ _ _ _ _ P2
                obtain ⟨W8, hW8⟩ : ∃ W8, W8 = w7.setCell ⟨D, 1, none⟩ (.slice ra7 rn7 rc7) := ⟨_, rfl⟩
                rw [← hW8] at P1
                have HO8 : Aside (BAt w4 w3.heap.size D (.slice xa m xc) (.slice ra7 rn7 rc7) C (O ++ [(s, x)]) W8) := P1
                have HW8 : Hid (W8 = w7.setCell ⟨D, 1, none⟩ (.slice ra7 rn7 rc7)) := hW8
                clear P1 P2 o7 g7 hrn7 k1 HOA HHN d1
                have r9 : W8.heap[R]? = some (.cells #[.slice none 0 0, .slice none 0 0] 25 (0, 0)) := (HO8.out.bel.block R hRD).trans r4
                have hb9 : Below w.heap.size w W8 := hb4.trans (HO8.out.bel.mono HWD.out)
                have e0' : W8.cell? ⟨D, 0, none⟩ = some (.slice xa m xc) := by rw [cell_of_row _ _ _ _ _ _ HO8.out.blk]; rfl
                have e1' : W8.cell? ⟨D, 1, none⟩ = some (.slice ra7 rn7 rc7) := by rw [cell_of_row _ _ _ _ _ _ HO8.out.blk]; rfl
                have HRO : Aside (RepoOwn ((W8.setCell ⟨R, 0, none⟩ (.slice xa m xc)).setCell ⟨R, 1, none⟩ (.slice ra7 rn7 rc7)) w.heap.size (.agg #[.slice xa m xc, .slice ra7 rn7 rc7]) (M.brC C H s t) (M.brH C H s t)) := by unfold Aside; rw [EC.out.1, EC.out.2, ← HEq.out]; exact (repoOwn_set r9 HO8.out.k (HO8.out.h.lower hD3)).lower h30.out
                obtain ⟨g1, g2, g3⟩ := res_set r9 (.slice xa m xc) (.slice ra7 rn7 rc7)
                obtain ⟨X, hX⟩ : ∃ X, X = (W8.setCell ⟨R, 0, none⟩ (.slice xa m xc)).setCell ⟨R, 1, none⟩ (.slice ra7 rn7 rc7) := ⟨_, rfl⟩
                rw [← hX] at g1 HRO
                have bX : Below w.heap.size w X := by rw [hX]; exact (hb9.setCell (p := ⟨R, 0, none⟩) (by show _ ≤ R; have := HPR.out; omega) _).setCell (p := ⟨R, 1, none⟩) (by show _ ≤ R; have := HPR.out; omega) _
                have HX9 : Hid (X = (W8.setCell ⟨R, 0, none⟩ (.slice xa m xc)).setCell ⟨R, 1, none⟩ (.slice ra7 rn7 rc7)) := hX
                have HX0 : Aside (X.cell? ⟨R, 0, none⟩ = some (.slice xa m xc)) := by unfold Aside; rw [cell_of_row _ _ _ _ _ _ g1]; rfl
                have HX1 : Aside (X.cell? ⟨R, 1, none⟩ = some (.slice ra7 rn7 rc7)) := by unfold Aside; rw [cell_of_row _ _ _ _ _ _ g1]; rfl
                have x0' : W8.cell? ⟨R, 0, none⟩ = some (.slice none 0 0) := by rw [cell_of_row _ _ _ _ _ _ r9]; rfl
                have x1' : W8.cell? ⟨R, 1, none⟩ = some (.slice none 0 0) := by rw [cell_of_row _ _ _ _ _ _ r9]; rfl
                have f0' : W8.frozen? ⟨R, 0, none⟩ = false := frozen_of_row _ _ _ _ _ r9
                have f1' : W8.frozen? ⟨R, 1, none⟩ = false := frozen_of_row _ _ _ _ _ r9
                clear g1 g2 g3 hX r9
                rw [hW8] at e0' e1' x0' x1' f0' f1'
                clear hW8
                go_wp2
                rw [← HW8.out, ← HX9.out]
                have y0 := HX0.out
                have y1 := HX1.out
                refine bodyPost_ret (v := .tuple #[.agg #[.slice xa m xc, .slice ra7 rn7 rc7], .int .i64 0]) (by simp [results, Tryz.results57, go_sem, y0, y1]) rfl ?_
                exact ⟨_, ret_two' E0.out.symm, HRO.out, bX⟩
  · have hzb : (z != 0) = true := by simp [hz0]
    have EE : Aside (M.brE C H s t = z) := by unfold Aside M.brE; rw [← HZ.out, if_pos hz0]
    have EC : Aside (M.brC C H s t = [] ∧ M.brH C H s t = []) := ⟨by unfold M.brC; rw [if_neg (by rw [EE.out]; exact hz0)], by unfold M.brH; rw [if_neg (by rw [EE.out]; exact hz0)]⟩
    clear hz0 J1 d0 d1 c0 c1 KH
    obtain ⟨g1, g2, g3⟩ := res_set r1 (.slice none 0 0) (.slice none 0 0)
    obtain ⟨X, hX⟩ : ∃ X, X = (w1.setCell ⟨R, 0, none⟩ (.slice none 0 0)).setCell ⟨R, 1, none⟩ (.slice none 0 0) := ⟨_, rfl⟩
    rw [← hX] at g1
    have bX : Below w.heap.size w X := by rw [hX]; exact (hb1.setCell (p := ⟨R, 0, none⟩) (by show _ ≤ R; have := HPR.out; omega) _).setCell (p := ⟨R, 1, none⟩) (by show _ ≤ R; have := HPR.out; omega) _
    have gX := g1
    have HX9 : Hid (X = (w1.setCell ⟨R, 0, none⟩ (.slice none 0 0)).setCell ⟨R, 1, none⟩ (.slice none 0 0)) := hX
    have HX0 : Aside (X.cell? ⟨R, 0, none⟩ = some (.slice none 0 0)) := by unfold Aside; rw [cell_of_row _ _ _ _ _ _ gX]; rfl
    have HX1 : Aside (X.cell? ⟨R, 1, none⟩ = some (.slice none 0 0)) := by unfold Aside; rw [cell_of_row _ _ _ _ _ _ gX]; rfl
    have x0 : w1.cell? ⟨R, 0, none⟩ = some (.slice none 0 0) := by rw [cell_of_row _ _ _ _ _ _ r1]; rfl
    have x1 : w1.cell? ⟨R, 1, none⟩ = some (.slice none 0 0) := by rw [cell_of_row _ _ _ _ _ _ r1]; rfl
    have f0 : w1.frozen? ⟨R, 0, none⟩ = false := frozen_of_row _ _ _ _ _ r1
    have f1 : w1.frozen? ⟨R, 1, none⟩ = false := frozen_of_row _ _ _ _ _ r1
    clear g1 g2 g3 hX gX r1
    go_wp2
    rw [← HX9.out]
    have y0 := HX0.out
    have y1 := HX1.out
    refine bodyPost_ret (v := .tuple #[.agg #[.slice none 0 0, .slice none 0 0], .int .i64 z]) (by simp [results, Tryz.results57, go_sem, y0, y1]) rfl ?_
    refine ⟨_, ret_two' EE.out.symm, ?_, bX⟩
    rw [EC.out.1, EC.out.2]; exact RepoOwn.none _ _
end Go.Proofs.YtcgpgflnihjpiafGreat

/- The reference's MergeOf. -/
namespace Go.Proofs.YtcgpgflnihjpiafGreat
open Go.RowKit

theorem all_onem (cs : Array Value) (f : Nat → Int) (h : cs.size = 100) (hc : ∀ i : Nat, i < 100 → cs[i]? = some (.int .i64 (f i))) : cs.all (·.oneCell') = true := by
  refine Array.all_eq_true_iff_forall_mem.2 fun v hv => ?_
  obtain ⟨j, hj, e⟩ := Array.mem_iff_getElem.1 hv
  have h2 := hc j (by rw [← h]; exact hj)
  rw [Array.getElem?_eq_getElem hj, e] at h2
  cases h2
  rfl

set_option maxRecDepth 100000 in
set_option maxHeartbeats 16000000 in
theorem mergeOf_good (a1 a2 a3 : Option Addr) (n1 n2 n3 c1 c2 c3 : Nat) (b l m : List (Int × Int)) (w : World) (h1 : Rd w a1 n1 b) (h2 : Rd w a2 n2 l) (h3 : Rd w a3 n3 m) (z1 : M.chk b = 0) (z2 : M.chk l = 0) (z3 : M.chk m = 0) :
    Calls Tryz.prog 106 #[.slice a1 n1 c1, .slice a2 n2 c2, .slice a3 n3 c3] w fun e w' => Hands3O w w' (M.mergeV b l m) (M.mergeK b l m) (M.mergeE b l m) e := by
  obtain ⟨Z, hZ, hz⟩ := zeroTable
  have k1 : n1 ≤ 40 := by rw [← h1.1]; exact ((M.chk_zero b).1 z1).1
  have k2 : n2 ≤ 40 := by rw [← h2.1]; exact ((M.chk_zero l).1 z2).1
  have k3 : n3 ≤ 40 := by rw [← h3.1]; exact ((M.chk_zero m).1 z3).1
  have H1 : Hid (Rd w a1 n1 b) := h1
  have H2 : Hid (Rd w a2 n2 l) := h2
  have H3 : Hid (Rd w a3 n3 m) := h3
  have e0 : M.mergeE b l m = if 40 < (M.mrows b l m).length then 2 else 0 := by unfold M.mergeE; rw [z1, z2, z3]; simp
  have HE0 : Hid (M.mergeE b l m = if 40 < (M.mrows b l m).length then 2 else 0) := e0
  have E1 : Hid (∀ W, Below w.heap.size w W → Calls Tryz.prog 126 #[.slice a1 n1 c1] W fun e w' => e = .returned (.int .i64 0) ∧ Below W.heap.size W w') := fun W hW => by have := error_any a1 n1 c1 b W (h1.below hW (Nat.le_refl _)) (by omega); rwa [z1] at this
  have E2 : Hid (∀ W, Below w.heap.size w W → Calls Tryz.prog 126 #[.slice a2 n2 c2] W fun e w' => e = .returned (.int .i64 0) ∧ Below W.heap.size W w') := fun W hW => by have := error_any a2 n2 c2 l W (h2.below hW (Nat.le_refl _)) (by omega); rwa [z2] at this
  have E3 : Hid (∀ W, Below w.heap.size w W → Calls Tryz.prog 126 #[.slice a3 n3 c3] W fun e w' => e = .returned (.int .i64 0) ∧ Below W.heap.size W w') := fun W hW => by have := error_any a3 n3 c3 m W (h3.below hW (Nat.le_refl _)) (by omega); rwa [z3] at this
  obtain ⟨Wa, hWa⟩ : ∃ Wa, Wa = w.alloc (.cells #[.slice a1 n1 c1, .slice a2 n2 c2, .slice a3 n3 c3] 49) := ⟨_, rfl⟩
  have ba : Below w.heap.size w Wa := by rw [hWa]; exact (Below.refl _ _).alloc (Nat.le_refl _) _
  have hWs : w.heap.size < Wa.heap.size := by rw [hWa]; simp
  have q0 : Wa.cell? ⟨w.heap.size, 0, none⟩ = some (.slice a1 n1 c1) := by rw [hWa]; simp [go_sem]
  have q1 : Wa.cell? ⟨w.heap.size, 1, none⟩ = some (.slice a2 n2 c2) := by rw [hWa]; simp [go_sem]
  have q2 : Wa.cell? ⟨w.heap.size, 2, none⟩ = some (.slice a3 n3 c3) := by rw [hWa]; simp [go_sem]
  have HWa : Hid (Wa = w.alloc (.cells #[.slice a1 n1 c1, .slice a2 n2 c2, .slice a3 n3 c3] 49)) := hWa
  clear h1 h2 h3 z1 z2 z3 e0 hWa
  go_enter Tryz.func106, Tryz.ntmps106
  go_wp2
  rw [← HWa.out]
  refine wp_loop_rounds 4 ?_
  rw [rounds_succ]
  go_wp2_with fail
  refine (E1.out _ ba).mono ?_
  rintro e w1 ⟨rfl, hb1⟩
  have b1 := ba.trans (hb1.mono ba.size)
  have p1 : w1.cell? ⟨w.heap.size, 1, none⟩ = some (.slice a2 n2 c2) := (hb1.cell (p := ⟨w.heap.size, 1, none⟩) hWs).trans q1
  have p2 : w1.cell? ⟨w.heap.size, 2, none⟩ = some (.slice a3 n3 c3) := (hb1.cell (p := ⟨w.heap.size, 2, none⟩) hWs).trans q2
  have hs1 : w.heap.size < w1.heap.size := Nat.lt_of_lt_of_le hWs hb1.size
  clear q0 q1 q2 hb1 hWs ba HWa
  go_wp2
  rw [rounds_succ]
  go_wp2_with fail
  refine (E2.out _ b1).mono ?_
  rintro e w2 ⟨rfl, hb2⟩
  have b2 := b1.trans (hb2.mono b1.size)
  have r2 : w2.cell? ⟨w.heap.size, 2, none⟩ = some (.slice a3 n3 c3) := (hb2.cell (p := ⟨w.heap.size, 2, none⟩) hs1).trans p2
  clear p1 p2 hb2 b1 hs1
  go_wp2
  rw [rounds_succ]
  go_wp2_with fail
  refine (E3.out _ b2).mono ?_
  rintro e w3 ⟨rfl, hb3⟩
  have b3 := b2.trans (hb3.mono b2.size)
  clear r2 hb3 b2
  go_wp2
  rw [rounds_succ]
  go_wp2_with fail
  refine (spread_any a1 n1 c1 b _ (H1.out.below b3 (Nat.le_refl _)) k1).mono ?_
  rintro e w4 ⟨cx, rfl, hcx, hfx, hb4⟩
  have b4 := b3.trans (hb4.mono b3.size)
  have HCX : Aside (cx.size = 100) := hcx
  have HFX : Aside (∀ i : Nat, i < 100 → cx[i]? = some (.int .i64 (M.find i b))) := hfx
  clear hcx hfx hb4 b3
  go_wp2_with fail
  refine (spread_any a2 n2 c2 l _ (H2.out.below b4 (Nat.le_refl _)) k2).mono ?_
  rintro e w5 ⟨cy, rfl, hcy, hfy, hb5⟩
  have b5 := b4.trans (hb5.mono b4.size)
  have HCY : Aside (cy.size = 100) := hcy
  have HFY : Aside (∀ i : Nat, i < 100 → cy[i]? = some (.int .i64 (M.find i l))) := hfy
  clear hcy hfy hb5 b4
  go_wp2_with fail
  refine (spread_any a3 n3 c3 m _ (H3.out.below b5 (Nat.le_refl _)) k3).mono ?_
  rintro e w6 ⟨cz, rfl, hcz, hfz, hb6⟩
  have b6 := b5.trans (hb6.mono b5.size)
  have HCZ : Aside (cz.size = 100) := hcz
  have HFZ : Aside (∀ i : Nat, i < 100 → cz[i]? = some (.int .i64 (M.find i m))) := hfz
  clear hcz hfz hb6 b5 E1 E2 E3 H1 H2 H3
  obtain ⟨S, hS⟩ : ∃ S, S = w6.heap.size := ⟨_, rfl⟩
  obtain ⟨V3, hV3⟩ : ∃ V3, V3 = ((w6.alloc (.cells Z 166)).alloc (.cells Z 166)).alloc (.cells Z 166) := ⟨_, rfl⟩
  have g0 : V3.heap[S]? = some (.cells Z 166 (0, 0)) := by rw [hV3, hS]; exact (Below.heap_alloc _ _ _ (by simp; omega)).trans ((Below.heap_alloc _ _ _ (by simp)).trans (heap_alloc_new w6 _))
  have g1 : V3.heap[S + 1]? = some (.cells Z 166 (0, 0)) := by rw [hV3, hS]; exact (Below.heap_alloc _ _ _ (by simp)).trans (by rw [show w6.heap.size + 1 = (w6.alloc (.cells Z 166)).heap.size by simp]; exact heap_alloc_new _ _)
  have g2 : V3.heap[S + 1 + 1]? = some (.cells Z 166 (0, 0)) := by rw [hV3, hS, show w6.heap.size + 1 + 1 = ((w6.alloc (.cells Z 166)).alloc (.cells Z 166)).heap.size by simp]; exact heap_alloc_new _ _
  have bV3 : Below w6.heap.size w6 V3 := by rw [hV3]; exact (((Below.refl _ _).alloc (Nat.le_refl _) _).alloc (by simp) _).alloc (by simp; omega) _
  obtain ⟨V4, hV4⟩ : ∃ V4, V4 = V3.setRow S cx := ⟨_, rfl⟩
  obtain ⟨V5, hV5⟩ : ∃ V5, V5 = V4.setRow (S + 1) cy := ⟨_, rfl⟩
  obtain ⟨V6, hV6⟩ : ∃ V6, V6 = V5.setRow (S + 1 + 1) cz := ⟨_, rfl⟩
  have g4 : V4.heap[S + 1]? = some (.cells Z 166 (0, 0)) := by rw [hV4]; exact (setRow_other _ _ _ _ (by omega)).trans g1
  have g5 : V5.heap[S + 1 + 1]? = some (.cells Z 166 (0, 0)) := by rw [hV5, setRow_other _ _ _ _ (by omega), hV4]; exact (setRow_other _ _ _ _ (by omega)).trans g2
  have GX : Aside (V6.heap[S]? = some (.cells cx 166 (0, 0))) := by unfold Aside; rw [hV6, setRow_other _ _ _ _ (by omega), hV5, setRow_other _ _ _ _ (by omega), hV4]; exact setRow_heap _ _ Z cx _ _ g0
  have GY : Aside (V6.heap[S + 1]? = some (.cells cy 166 (0, 0))) := by unfold Aside; rw [hV6, setRow_other _ _ _ _ (by omega), hV5]; exact setRow_heap _ _ Z cy _ _ g4
  have GZ : Aside (V6.heap[S + 1 + 1]? = some (.cells cz 166 (0, 0))) := by unfold Aside; rw [hV6]; exact setRow_heap _ _ Z cz _ _ g5
  have hV6s : V6.heap.size = S + 1 + 1 + 1 := by rw [hV6, hV5, hV4, hV3, hS]; simp
  have bV6 : Below w6.heap.size w6 V6 := by rw [hV6, hV5, hV4]; exact below_setRow (below_setRow (below_setRow bV3 (by omega) _) (by omega) _) (by omega) _
  have b7 : Below w.heap.size w V6 := b6.trans (bV6.mono b6.size)
  have hwS : w.heap.size ≤ S := by rw [hS]; exact b6.size
  have G0 : Hid (V3.heap[S]? = some (.cells Z 166 (0, 0))) := g0
  have G4 : Hid (V4.heap[S + 1]? = some (.cells Z 166 (0, 0))) := g4
  have G5 : Hid (V5.heap[S + 1 + 1]? = some (.cells Z 166 (0, 0))) := g5
  have HV3 : Hid (V3 = ((w6.alloc (.cells Z 166)).alloc (.cells Z 166)).alloc (.cells Z 166)) := hV3
  have HV4 : Hid (V4 = V3.setRow S cx) := hV4
  have HV5 : Hid (V5 = V4.setRow (S + 1) cy) := hV5
  have HV6 : Hid (V6 = V5.setRow (S + 1 + 1) cz) := hV6
  have HS : Hid (S = w6.heap.size) := hS
  have HZs : Hid (Z.size = 100) := hZ
  have HVs : Aside (V6.heap.size = S + 1 + 1 + 1) := hV6s
  clear hV3 hV4 hV5 hV6 g0 g1 g2 g4 g5 hS hZ bV3 bV6 b6 hV6s
  have OX := all_onem cx _ HCX.out HFX.out
  have OY := all_onem cy _ HCY.out HFY.out
  have OZ := all_onem cz _ HCZ.out HFZ.out
  have HOX : Hid (cx.all (·.oneCell') = true) := OX
  have HOY : Hid (cy.all (·.oneCell') = true) := OY
  have HOZ : Hid (cz.all (·.oneCell') = true) := OZ
  clear OX OY OZ
  go_wp2_with (first
    | (refine wpList_store_row rfl 166 _ _ rfl w6.heap.size cx rfl rfl 166 Z (by rw [← HV3.out, ← HS.out]; exact G0.out) (by rw [HCX.out]; exact infoTable) (by rw [HCX.out]; exact HZs.out) HOX.out ?_; rw [← HV3.out, ← HS.out, ← HV4.out])
    | (refine wpList_store_row rfl 166 _ _ rfl (S + 1) cy rfl rfl 166 Z G4.out (by rw [HCY.out]; exact infoTable) (by rw [HCY.out]; exact HZs.out) HOY.out ?_; rw [← HV5.out])
    | (refine wpList_store_row rfl 166 _ _ rfl (S + 1 + 1) cz rfl rfl 166 Z G5.out (by rw [HCZ.out]; exact infoTable) (by rw [HCZ.out]; exact HZs.out) HOZ.out ?_; rw [← HV6.out]))
  go_loopg [15, 16] 100 (fun g v ix wr => ∃ (k : Nat) (ys : Array Value), k + g = 100 ∧ ix = .int .i64 k ∧ Aside (OwnI wr V6.heap.size v (M.sel (fun k => M.mclash (M.find k b) (M.find k l) (M.find k m)) k)) ∧ Aside (wr.heap[S]? = some (.cells cx 166 (0, 0))) ∧ Aside (wr.heap[S + 1]? = some (.cells ys 166 (0, 0))) ∧ Aside (wr.heap[S + 1 + 1]? = some (.cells cz 166 (0, 0))) ∧ Aside (ys.size = 100) ∧ Aside (∀ i : Nat, i < 100 → ys[i]? = some (.int .i64 (if i < k then M.mtab b l m i else M.find i l))) ∧ Aside (V6.heap.size ≤ wr.heap.size) ∧ Below w.heap.size w wr)
  case atStart => exact ⟨0, cy, by omega, rfl, OwnI.nil _ _, GX, GY, GZ, HCY, fun i hi => by rw [if_neg (by omega)]; exact HFY.out i hi, Nat.le_refl _, b7⟩
  case round =>
    obtain ⟨k, ys, hk, rfl, HO, RX, RY, RZ, HYs, HYf, HSz, hbel⟩ := hrel
    by_cases hlt : k < 100
    · have hki : (k : Int) ≤ 99 := by omega
      obtain ⟨x, hx⟩ : ∃ x, x = M.find (k : Int) b := ⟨_, rfl⟩
      obtain ⟨y, hy⟩ : ∃ y, y = M.find (k : Int) l := ⟨_, rfl⟩
      obtain ⟨z, hzz⟩ : ∃ z, z = M.find (k : Int) m := ⟨_, rfl⟩
      have cX : wr.cell? ⟨S, k, none⟩ = some (.int .i64 x) := by rw [cell_of_row wr _ k cx _ _ RX.out, HFX.out k hlt, hx]
      have cY : wr.cell? ⟨S + 1, k, none⟩ = some (.int .i64 y) := by rw [cell_of_row wr _ k ys _ _ RY.out, HYf.out k hlt, if_neg (by omega), hy]
      have cZ : wr.cell? ⟨S + 1 + 1, k, none⟩ = some (.int .i64 z) := by rw [cell_of_row wr _ k cz _ _ RZ.out, HFZ.out k hlt, hzz]
      have fY : wr.frozen? ⟨S + 1, k, none⟩ = false := frozen_of_row wr _ k ys _ RY.out
      have hmt : M.mtab b l m (k : Int) = M.mval x y z := by unfold M.mtab; rw [← hx, ← hy, ← hzz]
      have hmc : M.sel (fun k => M.mclash (M.find k b) (M.find k l) (M.find k m)) (k + 1) = if M.mclash x y z = true then M.sel (fun k => M.mclash (M.find k b) (M.find k l) (M.find k m)) k ++ [(k : Int)] else M.sel (fun k => M.mclash (M.find k b) (M.find k l) (M.find k m)) k := by rw [M.sel, ← hx, ← hy, ← hzz]
      have HY0 : Aside (y = M.find (k : Int) l) := hy
      have keepF : M.mval x y z = y → Aside (∀ i : Nat, i < 100 → ys[i]? = some (.int .i64 (if i < k + 1 then M.mtab b l m i else M.find i l))) := fun he i hi => by
        rw [HYf.out i hi]
        by_cases e : i = k
        · subst e; rw [if_neg (by omega), if_pos (by omega), hmt, he, HY0.out]
        · by_cases e2 : i < k
          · rw [if_pos e2, if_pos (by omega)]
          · rw [if_neg e2, if_neg (by omega)]
      clear hx hy hzz
      by_cases hyz : y = z
      · have hb1 : (y == z) = true := by simp [hyz]
        have HYf' := keepF (by unfold M.mval; rw [if_pos hyz])
        have HO' : Aside (OwnI wr V6.heap.size u15 (M.sel (fun k => M.mclash (M.find k b) (M.find k l) (M.find k m)) (k + 1))) := by unfold Aside; rw [hmc, if_neg (by unfold M.mclash; simp [hyz])]; exact HO.out
        clear hyz keepF hmt hmc
        go_wp2_with fail
        go_quiet (fail)
        go_wp2
        go_roundg (gk - 1)
        case measure => omega
        case rel => exact ⟨k + 1, ys, by omega, by go_num, HO', RX, RY, RZ, HYs, HYf', HSz, below_drewN hbel _⟩
      · have hb1 : (y == z) = false := by simp [hyz]
        by_cases hyx : y = x
        · have hb2 : (y == x) = true := by simp [hyx]
          have HO' : Aside (OwnI wr V6.heap.size u15 (M.sel (fun k => M.mclash (M.find k b) (M.find k l) (M.find k m)) (k + 1))) := by unfold Aside; rw [hmc, if_neg (by unfold M.mclash; simp [hyx])]; exact HO.out
          have hmz : M.mval x y z = z := by unfold M.mval; rw [if_neg hyz, if_pos hyx]
          have HYf' : Aside (∀ i : Nat, i < 100 → (ys.setIfInBounds k (.int .i64 z))[i]? = some (.int .i64 (if i < k + 1 then M.mtab b l m i else M.find i l))) := fun i hi => by
            rw [set_get ys k i _ (by rw [HYs.out]; exact hlt)]
            by_cases e : k = i
            · subst e; rw [if_pos rfl, if_pos (by omega), hmt, hmz]
            · rw [if_neg e, HYf.out i hi]
              by_cases e2 : i < k
              · rw [if_pos e2, if_pos (by omega)]
              · rw [if_neg e2, if_neg (by omega)]
          have HYs' : Aside ((ys.setIfInBounds k (.int .i64 z)).size = 100) := by simpa [Aside] using HYs.out
          have hne15 : ∀ q, u15.ownBlock = some q → q ≠ S + 1 := fun q hq e => by
            have := (World.ownsRow.lt HO.out q hq).1
            have h2 := HVs.out
            omega
          have HO2 : ∀ W : World, W.heap = wr.heap → Aside (OwnI (W.setCell ⟨S + 1, k, none⟩ (.int .i64 z)) V6.heap.size u15 (M.sel (fun k => M.mclash (M.find k b) (M.find k l) (M.find k m)) (k + 1))) := fun W hW => keep_row HO'.out (fun q _ e => by rw [heap_setCell_other W ⟨S + 1, k, none⟩ q _ (hne15 q e), hW])
          have RX2 : ∀ W : World, W.heap = wr.heap → Aside ((W.setCell ⟨S + 1, k, none⟩ (.int .i64 z)).heap[S]? = some (.cells cx 166 (0, 0))) := fun W hW => (heap_setCell_other W ⟨S + 1, k, none⟩ S _ (by show S ≠ S + 1; omega)).trans (by rw [hW]; exact RX.out)
          have RY2 : ∀ W : World, W.heap = wr.heap → Aside ((W.setCell ⟨S + 1, k, none⟩ (.int .i64 z)).heap[S + 1]? = some (.cells (ys.setIfInBounds k (.int .i64 z)) 166 (0, 0))) := fun W hW => heap_setCell_same W _ k ys _ _ (by rw [hW]; exact RY.out)
          have RZ2 : ∀ W : World, W.heap = wr.heap → Aside ((W.setCell ⟨S + 1, k, none⟩ (.int .i64 z)).heap[S + 1 + 1]? = some (.cells cz 166 (0, 0))) := fun W hW => (heap_setCell_other W ⟨S + 1, k, none⟩ (S + 1 + 1) _ (by show S + 1 + 1 ≠ S + 1; omega)).trans (by rw [hW]; exact RZ.out)
          clear hyz hyx keepF hmt hmc hmz
          go_wp2_with fail
          go_quiet (fail)
          go_wp2_with fail
          go_quiet (fail)
          go_wp2
          go_roundg (gk - 1)
          case measure => omega
          case rel => exact ⟨k + 1, ys.setIfInBounds k (.int .i64 z), by omega, by go_num, HO2 _ rfl, RX2 _ rfl, RY2 _ rfl, RZ2 _ rfl, HYs', HYf', by unfold Aside; simpa [World.setCell] using HSz.out, (below_drewN hbel _).setCell (p := ⟨S + 1, k, none⟩) (by show w.heap.size ≤ S + 1; omega) _⟩
        · have hb2 : (y == x) = false := by simp [hyx]
          have HYf' := keepF (by unfold M.mval; rw [if_neg hyz, if_neg hyx])
          by_cases hzx : z = x
          · have hb3 : (z == x) = true := by simp [hzx]
            have HO' : Aside (OwnI wr V6.heap.size u15 (M.sel (fun k => M.mclash (M.find k b) (M.find k l) (M.find k m)) (k + 1))) := by unfold Aside; rw [hmc, if_neg (by unfold M.mclash; simp [hzx])]; exact HO.out
            clear hyz hyx hzx keepF hmt hmc
            go_wp2_with fail
            go_quiet (fail)
            go_wp2_with fail
            go_quiet (fail)
            go_wp2_with fail
            go_quiet (fail)
            go_wp2
            go_roundg (gk - 1)
            case measure => omega
            case rel => exact ⟨k + 1, ys, by omega, by go_num, HO', RX, RY, RZ, HYs, HYf', HSz, below_drewN hbel _⟩
          · have hb3 : (z == x) = false := by simp [hzx]
            have HSl : Aside (M.sel (fun k => M.mclash (M.find k b) (M.find k l) (M.find k m)) (k + 1) = M.sel (fun k => M.mclash (M.find k b) (M.find k l) (M.find k m)) k ++ [(k : Int)]) := by unfold Aside; rw [hmc, if_pos (by unfold M.mclash; simp [hyz, hyx, hzx])]
            have HLe : Aside ((M.sel (fun k => M.mclash (M.find k b) (M.find k l) (M.find k m)) k).length + 1 ≤ 1000000) := by have := M.sel_len (fun k => M.mclash (M.find k b) (M.find k l) (M.find k m)) k; unfold Aside; omega
            clear hyz hyx hzx keepF hmt hmc
            go_wp2_with fail
            go_quiet (fail)
            go_wp2_with fail
            go_quiet (fail)
            go_wp2_with fail
            go_quiet (fail)
            obtain ⟨Wd, hWd⟩ : ∃ Wd : World, Wd.heap = wr.heap ∧ Wd.os = wr.os ∧ Wd.tape = wr.tape ∧ Wd.output = wr.output := ⟨wr, rfl, rfl, rfl, rfl⟩
            clear hWd Wd
            have HOd : ∀ W : World, W.heap = wr.heap → OwnI (W.alloc (.cells #[.int .i64 (k : Int)] 3)) V6.heap.size u15 (M.sel (fun k => M.mclash (M.find k b) (M.find k l) (M.find k m)) k) := fun W hW => World.ownsRow.alloc (show W.ownsRow _ _ _ _ _ _ from keep_row HO.out (fun q _ _ => by rw [hW])) _
            have HOD : Hid (∀ W : World, W.heap = wr.heap → OwnI (W.alloc (.cells #[.int .i64 (k : Int)] 3)) V6.heap.size u15 (M.sel (fun k => M.mclash (M.find k b) (M.find k l) (M.find k m)) k)) := HOd
            clear HOd
            go_wp2_with (at_builtin; refine append_ri rfl _ _ rfl V6.heap.size _ (M.sel (fun k => M.mclash (M.find k b) (M.find k l) (M.find k m)) k) rfl (HOD.out _ rfl) wr.heap.size 1 1 [(k : Int)] rfl rfl (ri_one (wr.drewN _) _) HLe.out (by have := HSz.out; simp; omega) ?_)
            intro v' w' ho' hb4 hkeep
            have HO' : Aside (OwnI w' V6.heap.size v' (M.sel (fun k => M.mclash (M.find k b) (M.find k l) (M.find k m)) (k + 1))) := by unfold Aside; rw [HSl.out]; exact ho'
            have hSl := (Array.getElem?_eq_some_iff.1 RZ.out).1
            have same : ∀ q, q ≤ S + 1 + 1 → w'.heap[q]? = wr.heap[q]? := fun q hq => by
              have h2 := HVs.out
              exact (hb4.block q (by omega)).trans (Below.heap_alloc _ _ q (show q < wr.heap.size by omega))
            have RX2 : Aside (w'.heap[S]? = some (.cells cx 166 (0, 0))) := (same S (by omega)).trans RX.out
            have RY2 : Aside (w'.heap[S + 1]? = some (.cells ys 166 (0, 0))) := (same (S + 1) (by omega)).trans RY.out
            have RZ2 : Aside (w'.heap[S + 1 + 1]? = some (.cells cz 166 (0, 0))) := (same (S + 1 + 1) (by omega)).trans RZ.out
            have HSz2 : Aside (V6.heap.size ≤ w'.heap.size) := by have h1 := hb4.size; have h2 := HSz.out; simp at h1; unfold Aside; omega
            have hb5 : Below w.heap.size w w' := ((below_drewN hbel _).alloc hbel.size _).trans (hb4.mono (by rw [HVs.out]; omega))
            clear ho' hb4 hkeep HOD same
            go_wp2
            go_roundg (gk - 1)
            case measure => omega
            case rel => exact ⟨k + 1, ys, by omega, by go_num, HO', RX2, RY2, RZ2, HYs, HYf', HSz2, hb5⟩
    · obtain rfl : k = 100 := by omega
      have HYf2 : ∀ i : Nat, i < 100 → ys[i]? = some (.int .i64 (M.mtab b l m i)) := fun i hi => by rw [HYf.out i hi, if_pos hi]
      have HFo := folded_any ys (fun i => M.mtab b l m i) wr HYf2
      have HFF : Hid (Calls Tryz.prog 128 #[.agg ys] wr fun e w' => ∃ v, e = .returned v ∧ Own w' (wr.heap.size + 1) v (M.mrows b l m) ∧ Below wr.heap.size wr w') := HFo
      obtain ⟨ua, uc, hue, hur, hul, hum⟩ := OwnI.ri HO.out
      have HUr : Hid (Ri wr ua (M.mkeys b l m).length (M.mkeys b l m)) := hur
      have hue2 : u15 = .slice ua (M.mkeys b l m).length uc := hue
      obtain ⟨un, hun⟩ : ∃ un, un = (M.mkeys b l m).length := ⟨_, rfl⟩
      have hul2 : un ≤ uc := by rw [hun]; exact hul
      rw [← hun] at hue2 HUr
      subst hue2
      clear hue hur hul hun HYf2 HFo HO
      have hki : decide ((100 : Int) ≤ 99) = false := by decide
      go_wp2_with (refine wpList_load_row rfl 166 _ rfl (S + 1) rfl 166 ys _ _ RY.out Tryz.underlying166 rfl (by rw [HYs.out]; exact infoTable) ?_)
      refine HFF.out.mono ?_
      rintro e w8 ⟨v, rfl, ho8, hb8⟩
      obtain ⟨ra, rc, rfl, hr8, hn8, hc8, hz8⟩ := ho8.rd
      obtain ⟨rn, hrn⟩ : ∃ rn, rn = (M.mrows b l m).length := ⟨_, rfl⟩
      rw [← hrn] at hr8 hn8 hz8 ⊢
      have HR8 : Hid (Rd w8 ra rn (M.mrows b l m)) := hr8
      have HZ8 : Hid (ra = none → rn = 0 ∧ rc = 0) := hz8
      have HOw : Hid (Own w8 w.heap.size (.slice ra rn rc) (M.mrows b l m)) := by unfold Hid; rw [hrn]; exact Own.lower ho8 (by have := hbel.size; omega)
      have HU8 : Hid (Ri w8 ua un (M.mkeys b l m)) := HUr.out.below hb8 (Nat.le_refl _)
      have b8 : Below w.heap.size w w8 := hbel.trans (hb8.mono hbel.size)
      have HRN : Hid (rn = (M.mrows b l m).length) := hrn
      clear hr8 hz8 hb8 ho8 hrn HFF HUr
      have hrm : rn ≤ 9223372036854775807 := by unfold maxLen at hc8; omega
      by_cases h40 : 40 < rn
      · have e0 : M.mergeE b l m = 2 := by rw [HE0.out, if_pos (by rw [← HRN.out]; exact h40)]
        have F : Hid (Hands3O w w8 (M.mergeV b l m) (M.mergeK b l m) (M.mergeE b l m) (.returned (.tuple #[.slice none 0 0, .slice none 0 0, .int .i64 2]))) := by
          unfold M.mergeV M.mergeK
          rw [e0, if_neg (by omega), if_neg (by omega)]
          exact Hands3O.err 2 b8
        clear e0
        go_wp2
        go_ret3
        exact F.out
      · have e0 : M.mergeE b l m = 0 := by rw [HE0.out, if_neg (by rw [← HRN.out]; exact h40)]
        have F : Hid (Hands3O w w8 (M.mergeV b l m) (M.mergeK b l m) (M.mergeE b l m) (.returned (.tuple #[.slice ra rn rc, .slice ua un uc, .int .i64 0]))) := by
          unfold M.mergeV M.mergeK
          rw [e0, if_pos rfl, if_pos rfl]
          exact ⟨ra, rn, rc, ua, un, uc, rfl, HR8.out, hn8, hc8, ⟨HZ8.out, HOw.out⟩, HU8.out, hul2, hum, b8⟩
        clear e0
        go_wp2
        go_ret3
        exact F.out
end Go.Proofs.YtcgpgflnihjpiafGreat

/- The reference's MergeOf, whatever it is handed. -/
namespace Go.Proofs.YtcgpgflnihjpiafGreat
open Go.RowKit

set_option maxRecDepth 100000 in
set_option maxHeartbeats 4000000 in
theorem mergeOf_own (a1 a2 a3 : Option Addr) (n1 n2 n3 c1 c2 c3 : Nat) (b l m : List (Int × Int)) (w : World) (h1 : Rd w a1 n1 b) (h2 : Rd w a2 n2 l) (h3 : Rd w a3 n3 m)
    (k1 : n1 ≤ 9223372036854775807) (k2 : n2 ≤ 9223372036854775807) (k3 : n3 ≤ 9223372036854775807) :
    Calls Tryz.prog 106 #[.slice a1 n1 c1, .slice a2 n2 c2, .slice a3 n3 c3] w fun e w' => Hands3O w w' (M.mergeV b l m) (M.mergeK b l m) (M.mergeE b l m) e := by
  by_cases hall : M.chk b = 0 ∧ M.chk l = 0 ∧ M.chk m = 0
  · exact mergeOf_good a1 a2 a3 n1 n2 n3 c1 c2 c3 b l m w h1 h2 h3 hall.1 hall.2.1 hall.2.2
  · have E1 : Hid (∀ W, Below w.heap.size w W → Calls Tryz.prog 126 #[.slice a1 n1 c1] W fun e w' => e = .returned (.int .i64 (M.chk b)) ∧ Below W.heap.size W w') := fun W hW => error_any a1 n1 c1 b W (h1.below hW (Nat.le_refl _)) k1
    have E2 : Hid (∀ W, Below w.heap.size w W → Calls Tryz.prog 126 #[.slice a2 n2 c2] W fun e w' => e = .returned (.int .i64 (M.chk l)) ∧ Below W.heap.size W w') := fun W hW => error_any a2 n2 c2 l W (h2.below hW (Nat.le_refl _)) k2
    have E3 : Hid (∀ W, Below w.heap.size w W → Calls Tryz.prog 126 #[.slice a3 n3 c3] W fun e w' => e = .returned (.int .i64 (M.chk m)) ∧ Below W.heap.size W w') := fun W hW => error_any a3 n3 c3 m W (h3.below hW (Nat.le_refl _)) k3
    have e0 : M.mergeE b l m = if M.chk b ≠ 0 then M.chk b else if M.chk l ≠ 0 then M.chk l else M.chk m := by
      unfold M.mergeE
      by_cases z1 : M.chk b = 0
      · by_cases z2 : M.chk l = 0
        · have z3 : M.chk m ≠ 0 := fun z3 => hall ⟨z1, z2, z3⟩
          simp [z1, z2, z3]
        · simp [z1, z2]
      · simp [z1]
    have hne : M.mergeE b l m ≠ 0 := by
      rw [e0]
      by_cases z1 : M.chk b = 0
      · by_cases z2 : M.chk l = 0
        · have z3 : M.chk m ≠ 0 := fun z3 => hall ⟨z1, z2, z3⟩
          simp [z1, z2, z3]
        · simp [z1, z2]
      · simp [z1]
    have e1 : M.mergeV b l m = [] := by unfold M.mergeV; rw [if_neg hne]
    have e2 : M.mergeK b l m = [] := by unfold M.mergeK; rw [if_neg hne]
    rw [e1, e2]
    obtain ⟨E, hE⟩ : ∃ E, E = M.mergeE b l m := ⟨_, rfl⟩
    rw [← hE] at e0 hne ⊢
    obtain ⟨x, hx⟩ : ∃ x, x = M.chk b := ⟨_, rfl⟩
    obtain ⟨y, hy⟩ : ∃ y, y = M.chk l := ⟨_, rfl⟩
    obtain ⟨z, hz⟩ : ∃ z, z = M.chk m := ⟨_, rfl⟩
    rw [← hx, ← hy, ← hz] at e0
    rw [← hx] at E1
    rw [← hy] at E2
    rw [← hz] at E3
    obtain ⟨Wa, hWa⟩ : ∃ Wa, Wa = w.alloc (.cells #[.slice a1 n1 c1, .slice a2 n2 c2, .slice a3 n3 c3] 49) := ⟨_, rfl⟩
    have ba : Below w.heap.size w Wa := by rw [hWa]; exact (Below.refl _ _).alloc (Nat.le_refl _) _
    have hWs : w.heap.size < Wa.heap.size := by rw [hWa]; simp
    have q0 : Wa.cell? ⟨w.heap.size, 0, none⟩ = some (.slice a1 n1 c1) := by rw [hWa]; simp [go_sem]
    have q1 : Wa.cell? ⟨w.heap.size, 1, none⟩ = some (.slice a2 n2 c2) := by rw [hWa]; simp [go_sem]
    have q2 : Wa.cell? ⟨w.heap.size, 2, none⟩ = some (.slice a3 n3 c3) := by rw [hWa]; simp [go_sem]
    have HWa : Hid (Wa = w.alloc (.cells #[.slice a1 n1 c1, .slice a2 n2 c2, .slice a3 n3 c3] 49)) := hWa
    have HE : Hid (E = if x ≠ 0 then x else if y ≠ 0 then y else z) := e0
    have HNE : Hid (E ≠ 0) := hne
    clear h1 h2 h3 e0 e1 e2 hE hx hy hz hWa hall hne
    go_enter Tryz.func106, Tryz.ntmps106
    go_wp2
    rw [← HWa.out]
    refine wp_loop_rounds 4 ?_
    rw [rounds_succ]
    go_wp2_with fail
    refine (E1.out _ ba).mono ?_
    rintro e w1 ⟨rfl, hb1⟩
    have b1 := ba.trans (hb1.mono ba.size)
    have p1 : w1.cell? ⟨w.heap.size, 1, none⟩ = some (.slice a2 n2 c2) := (hb1.cell (p := ⟨w.heap.size, 1, none⟩) hWs).trans q1
    have p2 : w1.cell? ⟨w.heap.size, 2, none⟩ = some (.slice a3 n3 c3) := (hb1.cell (p := ⟨w.heap.size, 2, none⟩) hWs).trans q2
    have hs1 : w.heap.size < w1.heap.size := Nat.lt_of_lt_of_le hWs hb1.size
    clear q0 q1 q2 hb1 hWs ba HWa
    by_cases hx : x = 0
    · have hxb : (x != 0) = false := by simp [hx]
      have HX : Hid (x = 0) := hx
      clear hx
      go_wp2
      rw [rounds_succ]
      go_wp2_with fail
      refine (E2.out _ b1).mono ?_
      rintro e w2 ⟨rfl, hb2⟩
      have b2 := b1.trans (hb2.mono b1.size)
      have r2 : w2.cell? ⟨w.heap.size, 2, none⟩ = some (.slice a3 n3 c3) := (hb2.cell (p := ⟨w.heap.size, 2, none⟩) hs1).trans p2
      clear p1 p2 hb2 b1 hs1
      by_cases hy : y = 0
      · have hyb : (y != 0) = false := by simp [hy]
        have HZ : Hid (E = z) := by have h := HE.out; rw [HX.out, hy] at h; simpa [Hid] using h
        have hzb : (z != 0) = true := by have h := HNE.out; rw [HZ.out] at h; simp [h]
        clear hy
        go_wp2
        rw [rounds_succ]
        go_wp2_with fail
        refine (E3.out _ b2).mono ?_
        rintro e w3 ⟨rfl, hb3⟩
        have b3 := b2.trans (hb3.mono b2.size)
        clear r2 hb3 b2
        go_wp2
        go_ret3
        rw [HZ.out]
        exact Hands3O.err z b3
      · have hyb : (y != 0) = true := by simp [hy]
        have HZ : Hid (E = y) := by have h := HE.out; rw [HX.out] at h; simp [hy] at h; exact h
        clear hy
        go_wp2
        go_ret3
        rw [HZ.out]
        exact Hands3O.err y b2
    · have hxb : (x != 0) = true := by simp [hx]
      have HZ : Hid (E = x) := by have h := HE.out; rw [if_pos hx] at h; exact h
      clear hx
      go_wp2
      go_ret3
      rw [HZ.out]
      exact Hands3O.err x b1

theorem mergeOf_any (a1 a2 a3 : Option Addr) (n1 n2 n3 c1 c2 c3 : Nat) (b l m : List (Int × Int)) (w : World) (h1 : Rd w a1 n1 b) (h2 : Rd w a2 n2 l) (h3 : Rd w a3 n3 m)
    (k1 : n1 ≤ 9223372036854775807) (k2 : n2 ≤ 9223372036854775807) (k3 : n3 ≤ 9223372036854775807) :
    Calls Tryz.prog 106 #[.slice a1 n1 c1, .slice a2 n2 c2, .slice a3 n3 c3] w fun e w' => Hands3 w w' (M.mergeV b l m) (M.mergeK b l m) (M.mergeE b l m) e :=
  (mergeOf_own a1 a2 a3 n1 n2 n3 c1 c2 c3 b l m w h1 h2 h3 k1 k2 k3).mono fun _ _ h => h.hands
end Go.Proofs.YtcgpgflnihjpiafGreat
