/- For every repo and every two names, the law WorkHeads returns true and leaves its arguments as they were: work.Branch and work.Drop answer what the reference answers. No condition. -/
import Derived.Test.YtcgpgflnihjpiaeGreatBWorkHeads10
import Derived.Test.YtcgpgflnihjpiaeGreatRows
import Derived.Test.YtcgpgflnihjpiaeGreatBWorkHeads01
import Derived.ProofKit
import Derived.OpenShut
import Derived.ChangeOld
import Derived.Deep.SlicePairs
import Derived.Deep.RegionHeld
import Derived.Lib.SmallJoins
import Derived.ChangeMaps5
import Derived.Test.YtcgpgflnihjpiaeGreatBWorkHeads02
import Derived.Test.YtcgpgflnihjpiaeGreatBWorkHeads09
import Derived.Test.YtcgpgflnihjpiaeGreatBWorkHeads08
namespace Go.Proofs.YtcgpgflnihjpiaeGreat
open Go.RowKit Go.Shelf Go.Maps

theorem M.brE_at {C : List M.Com} {H : List M.Hd} {s t : ByteArray} (hz : M.hchk C H t = 0) :
    (M.nam s = false → M.brE C H s t = 4) ∧ (M.nam s = true → 0 ≤ M.plc H s → M.brE C H s t = 6) ∧ (M.nam s = true → M.plc H s < 0 → H.length = 4 → M.brE C H s t = 2) ∧ (M.nam s = true → M.plc H s < 0 → H.length ≠ 4 → M.brE C H s t = 0) := by
  have h4 := (M.rchk_zero (M.hchk_zero hz).1).2.1
  unfold M.brE
  refine ⟨fun h => ?_, fun h1 h2 => ?_, fun h1 h2 h3 => ?_, fun h1 h2 h3 => ?_⟩
  · simp [hz, h]
  · simp [hz, h1, h2]
  · have : ¬ 0 ≤ M.plc H s := by omega
    simp [hz, h1, this, h3]
  · have : ¬ 0 ≤ M.plc H s := by omega
    have h5 : ¬ 4 ≤ H.length := by omega
    simp [hz, h1, this, h5]
/-- What the loop has made of the first k heads: dn: the head is in. -/
def M.insOk (x : M.Hd) (H : List M.Hd) (k : Nat) (dn : Bool) (O : List M.Hd) : Prop := O ++ (if dn = true then H.drop k else M.insH x (H.drop k)) = M.insH x H ∧ O.length = k + (if dn = true then 1 else 0)
theorem M.insOk_zero (x : M.Hd) (H : List M.Hd) : M.insOk x H 0 false [] := ⟨by simp, by simp⟩
theorem M.insOk_in {x : M.Hd} {H O : List M.Hd} {k : Nat} (h : M.insOk x H k false O) (hk : k < H.length) (hl : M.less x.1 (H.getD k M.hd0).1 = true) : M.insOk x H (k + 1) true (O ++ [x] ++ [H.getD k M.hd0]) := by
  obtain ⟨h1, h2⟩ := h
  rw [M.hdrop H k hk] at h1
  refine ⟨?_, by simp at h2 ⊢; omega⟩
  simp only [Bool.false_eq_true, if_false] at h1
  have e : M.insH x (H.getD k M.hd0 :: H.drop (k + 1)) = x :: H.getD k M.hd0 :: H.drop (k + 1) := by rw [M.insH, if_pos hl]
  rw [e] at h1
  simp only [if_true]
  rw [← h1]
  simp
theorem M.insOk_by {x : M.Hd} {H O : List M.Hd} {k : Nat} {dn : Bool} (h : M.insOk x H k dn O) (hk : k < H.length) (hl : dn = false → M.less x.1 (H.getD k M.hd0).1 = false) : M.insOk x H (k + 1) dn (O ++ [H.getD k M.hd0]) := by
  obtain ⟨h1, h2⟩ := h
  rw [M.hdrop H k hk] at h1
  cases dn with
  | true =>
    refine ⟨?_, by simp at h2 ⊢; omega⟩
    simp only [if_true] at h1 ⊢
    rw [← h1]; simp
  | false =>
    refine ⟨?_, by simp at h2 ⊢; omega⟩
    simp only [Bool.false_eq_true, if_false] at h1 ⊢
    have e : M.insH x (H.getD k M.hd0 :: H.drop (k + 1)) = H.getD k M.hd0 :: M.insH x (H.drop (k + 1)) := by rw [M.insH, if_neg (by rw [hl rfl]; simp)]
    rw [e] at h1
    rw [← h1]; simp
theorem M.insOk_end {x : M.Hd} {H O : List M.Hd} {dn : Bool} (h : M.insOk x H H.length dn O) : (if dn = true then O else O ++ [x]) = M.insH x H := by
  obtain ⟨h1, h2⟩ := h
  rw [List.drop_length] at h1
  cases dn with
  | true => simpa using h1
  | false => simpa [M.insH] using h1
/-- A box with a repo whose heads grow. -/
structure BAt (w0 : World) (B D : Nat) (x y : Value) (C : List M.Com) (O : List M.Hd) (w : World) : Prop where
  bel : Below D w0 w
  blk : w.heap[D]? = some (.cells #[x, y] 25 (0, 0))
  k : OwnK w B x C
  h : OwnH w D y O
theorem head_new (w : World) (s : ByteArray) (n : Int) (hs : s.size ≤ 9223372036854775807) : Hs (w.alloc (.cells #[.string s, .int .i64 n] 66)) (some ⟨w.heap.size, 0, none⟩) 1 [(s, n)] :=
  ⟨rfl, Or.inr ⟨w.heap.size, 0, rfl, by simp, fun i hi => by
    obtain rfl : i = 0 := by omega
    exact ⟨by simp [go_sem], by simp [go_sem], hs⟩⟩⟩
/-- A head is appended, and the box is set. -/
theorem BAt.put {w0 w w' : World} {B D : Nat} {x y y' : Value} {C : List M.Com} {O : List M.Hd} {q : M.Hd} (h : BAt w0 B D x y C O w) (tmp : Obj) (ho : OwnH w' D y' (O ++ [q])) (hg : (w.alloc tmp).grownBy w' y.ownBlock) :
    BAt w0 B D x y' C (O ++ [q]) (w'.setCell ⟨D, 1, none⟩ y') ∧ w'.heap[D]? = some (.cells #[x, y] 25 (0, 0)) := by
  have hlt := (Array.getElem?_eq_some_iff.1 h.blk).1
  have hba : Below w.heap.size w (w.alloc tmp) := (Below.refl _ _).alloc (Nat.le_refl _) _
  have typ : ∀ r, y.ownBlock = some r → ∃ cur, (w.alloc tmp).heap[r]? = some (.cells cur 66 (0, 0)) := by
    intro r e
    rcases (h.h.1.alloc tmp).2 with ⟨rfl, _⟩ | ⟨g, cap, cur', rfl, _, hgb, _⟩
    · simp [Value.ownBlock] at e
    · obtain rfl : g = r := by simpa [Value.ownBlock] using e
      exact ⟨_, hgb⟩
  have other : ∀ e, e ≠ 66 → ∀ r, y.ownBlock = some r → ∀ cur, (w.alloc tmp).heap[r]? ≠ some (.cells cur e (0, 0)) := by
    intro e he r hr cur hc
    obtain ⟨cur', hcur⟩ := typ r hr
    rw [hcur] at hc
    simp at hc
    exact he hc.2.symm
  have hDa : (w.alloc tmp).heap[D]? = some (.cells #[x, y] 25 (0, 0)) := by rw [Below.heap_alloc _ _ _ hlt]; exact h.blk
  have hne : y.ownBlock ≠ some D := fun e => other _ (by decide) D e _ hDa
  have hbk : w'.heap[D]? = some (.cells #[x, y] 25 (0, 0)) := by
    rw [hg.block D (by simp; omega) (fun e => hne e.symm)]; exact hDa
  have b1 : Below D w0 w' := (h.bel.alloc (Nat.le_of_lt hlt) tmp).grown hg (by simp; omega) (fun k e => (World.ownsRow.lt h.h.1 k e).1)
  obtain ⟨vals, k1, k2, k3⟩ := h.k.later hba
  have K' : OwnK w' B x C := ⟨vals, k1, ownsRow_elsewhere k2 hg (other _ (by decide)), fun i hi => ⟨ownsRow_elsewhere (k3 i hi).1 hg (other _ (by decide)), ownsRow_elsewhere (k3 i hi).2.1 hg (other _ (by decide)), (k3 i hi).2.2⟩⟩
  have g2 := grownBy_set w' ⟨D, 1, none⟩ y'
  refine ⟨⟨b1.setCell (p := ⟨D, 1, none⟩) (Nat.le_refl _) _, ?_, K'.elsewhere g2 hbk (by decide) (by decide) (by decide), ho.elsewhere g2 hbk (by decide)⟩, hbk⟩
  rw [heap_setCell_same _ _ _ _ _ _ hbk]; rfl

set_option maxRecDepth 100000 in
set_option maxHeartbeats 16000000 in
theorem branchOf_any (a : Option Addr) (n cap : Nat) (C : List M.Com) (a2 : Option Addr) (n2 cap2 : Nat) (H : List M.Hd) (s t : ByteArray) (w : World) (hV : RepoV w a n cap C a2 n2 cap2 H) (hss : s.size ≤ 9223372036854775807) :
    Calls Tryz.prog 12 #[.agg #[.slice a n cap, .slice a2 n2 cap2], .string s, .string t] w fun e w' => ∃ v, e = .returned (.tuple #[v, .int .i64 (M.brE C H s t)]) ∧ RepoOwn w' w.heap.size v (M.brC C H s t) (M.brH C H s t) ∧ Below w.heap.size w w' := by
  obtain ⟨p, hp⟩ : ∃ p, p = w.heap.size := ⟨_, rfl⟩
  obtain ⟨R, hR⟩ : ∃ R, R = p + 1 := ⟨_, rfl⟩
  have I0 := InBox.new w a n cap C a2 n2 cap2 H hV.cm hV.hs
  obtain ⟨W, hW⟩ : ∃ W, W = (w.alloc (.cells #[.slice a n cap, .slice a2 n2 cap2] 25)).alloc (.cells #[.slice none 0 0, .slice none 0 0] 25) := ⟨_, rfl⟩
  have hb0 : Below (w.alloc (.cells #[.slice a n cap, .slice a2 n2 cap2] 25)).heap.size (w.alloc (.cells #[.slice a n cap, .slice a2 n2 cap2] 25)) W := by rw [hW]; exact (Below.refl _ _).alloc (Nat.le_refl _) _
  have I1 := I0.below hb0
  rw [← hp] at I1
  have hb : Below w.heap.size w W := by rw [hW]; exact ((Below.refl _ _).alloc (Nat.le_refl _) _).alloc (by simp) _
  have hsz : W.heap.size = R + 1 := by rw [hW, hR, hp]; simp
  have q2 : W.heap[R]? = some (.cells #[.slice none 0 0, .slice none 0 0] 25 (0, 0)) := by
    rw [hW, show R = (w.alloc (.cells #[.slice a n cap, .slice a2 n2 cap2] 25)).heap.size by rw [hR, hp]; simp]
    exact heap_alloc_new _ _
  have HI : Hid (InBox W p a n cap C a2 n2 cap2 H) := I1
  have HVW : Hid (RepoV W a n cap C a2 n2 cap2 H) := hV.later hb
  have c0 := I1.c0
  have c1 := I1.c1
  obtain ⟨z, hz⟩ : ∃ z, z = M.hchk C H t := ⟨_, rfl⟩
  obtain ⟨x, hx⟩ : ∃ x, x = M.hat C H t := ⟨_, rfl⟩
  have K0 := headOf_any a n cap C a2 n2 cap2 H t W I1.cm hV.nm I1.hs hV.hm
  rw [← hz, ← hx] at K0
  have KH : Hid (Calls Tryz.prog 26 #[.agg #[.slice a n cap, .slice a2 n2 cap2], .string t] W fun e w' => e = .returned (.tuple #[.int .i64 x, .int .i64 z]) ∧ Below W.heap.size W w') := K0
  have HZ : Aside (z = M.hchk C H t) := hz
  have HX : Aside (x = M.hat C H t) := hx
  have HQ2 : Hid (W.heap[R]? = some (.cells #[.slice none 0 0, .slice none 0 0] 25 (0, 0))) := q2
  have HW : Hid (W = (w.alloc (.cells #[.slice a n cap, .slice a2 n2 cap2] 25)).alloc (.cells #[.slice none 0 0, .slice none 0 0] 25)) := hW
  have HP : Aside (p = w.heap.size) := hp
  have HR : Aside (R = p + 1) := hR
  have HPR : Aside (w.heap.size ≤ p) := by unfold Aside; omega
  have HSz : Aside (W.heap.size = R + 1) := hsz
  have hpR : p < R := by omega
  have HNH : Aside (H.length = n2) := hV.hs.1
  clear hW hp hR hV hb0 I0 I1 K0 hz hx q2 hsz
  go_enter Tryz.func12, Tryz.ntmps12
  go_wp2_with fail
  rw [← HW.out, ← HP.out, ← HR.out]
  go_wp2_with fail
  refine KH.out.mono ?_
  rintro e w1 ⟨rfl, b1⟩
  have hb1 : Below w.heap.size w w1 := hb.trans (b1.mono hb.size)
  have hRl : R < w1.heap.size := by have := HSz.out; have := b1.size; omega
  have r1 : w1.heap[R]? = some (.cells #[.slice none 0 0, .slice none 0 0] 25 (0, 0)) := (b1.block R (by have := HSz.out; omega)).trans HQ2.out
  have J1 := HI.out.below b1
  have d0 := J1.c0
  have d1 := J1.c1
  by_cases hz0 : z = 0
  · subst hz0
    have HZ0 : Hid (M.hchk C H t = 0) := HZ.out.symm
    have hr0 := (M.hchk_zero HZ0.out).1
    obtain ⟨tn, ht⟩ : ∃ tn, tn = M.nam s := ⟨_, rfl⟩
    have K1 := rname_any s w1 hss
    rw [← ht] at K1
    have KN : Hid (Calls Tryz.prog 43 #[.string s] w1 fun e w' => e = .returned (.bool tn) ∧ Below w1.heap.size w1 w') := K1
    have HT : Aside (tn = M.nam s) := ht
    clear K1 ht c0 c1 J1 KH d0 d1
    go_wp2_with fail
    refine KN.out.mono ?_
    rintro e w2 ⟨rfl, b2⟩
    have hb2 : Below w.heap.size w w2 := hb1.trans (b2.mono hb1.size)
    have r2 : w2.heap[R]? = some (.cells #[.slice none 0 0, .slice none 0 0] 25 (0, 0)) := (b2.block R hRl).trans r1
    have hRl2 : R < w2.heap.size := (Array.getElem?_eq_some_iff.1 r2).1
    have bW2 : Below W.heap.size W w2 := b1.trans (b2.mono b1.size)
    have J2 := HI.out.below bW2
    have e0 := J2.c0
    have e1 := J2.c1
    clear b2 KN r1 J2
    cases tn with
    | false =>
      have E : Aside (M.brE C H s t = 4) := (M.brE_at HZ0.out).1 HT.out.symm
      have EC : Aside (M.brC C H s t = [] ∧ M.brH C H s t = []) := ⟨by unfold M.brC; rw [if_neg (by rw [E.out]; decide)], by unfold M.brH; rw [if_neg (by rw [E.out]; decide)]⟩
      obtain ⟨g1, g2, g3⟩ := res_set r2 (.slice none 0 0) (.slice none 0 0)
      obtain ⟨X, hX⟩ : ∃ X, X = (w2.setCell ⟨R, 0, none⟩ (.slice none 0 0)).setCell ⟨R, 1, none⟩ (.slice none 0 0) := ⟨_, rfl⟩
      rw [← hX] at g1
      have bX : Below w.heap.size w X := by rw [hX]; exact (hb2.setCell (p := ⟨R, 0, none⟩) (by show _ ≤ R; have := HPR.out; omega) _).setCell (p := ⟨R, 1, none⟩) (by show _ ≤ R; have := HPR.out; omega) _
      have gX := g1
      have HX9 : Hid (X = (w2.setCell ⟨R, 0, none⟩ (.slice none 0 0)).setCell ⟨R, 1, none⟩ (.slice none 0 0)) := hX
      have HX0 : Aside (X.cell? ⟨R, 0, none⟩ = some (.slice none 0 0)) := by unfold Aside; rw [cell_of_row _ _ _ _ _ _ gX]; rfl
      have HX1 : Aside (X.cell? ⟨R, 1, none⟩ = some (.slice none 0 0)) := by unfold Aside; rw [cell_of_row _ _ _ _ _ _ gX]; rfl
      have x0 : w2.cell? ⟨R, 0, none⟩ = some (.slice none 0 0) := by rw [cell_of_row _ _ _ _ _ _ r2]; rfl
      have x1 : w2.cell? ⟨R, 1, none⟩ = some (.slice none 0 0) := by rw [cell_of_row _ _ _ _ _ _ r2]; rfl
      have f0 : w2.frozen? ⟨R, 0, none⟩ = false := frozen_of_row _ _ _ _ _ r2
      have f1 : w2.frozen? ⟨R, 1, none⟩ = false := frozen_of_row _ _ _ _ _ r2
      clear g1 g2 g3 hX gX r2
      go_wp2
      rw [← HX9.out]
      have y0 := HX0.out
      have y1 := HX1.out
      refine bodyPost_ret (v := .tuple #[.agg #[.slice none 0 0, .slice none 0 0], .int .i64 4]) (by simp [results, Tryz.results12, go_sem, y0, y1]) rfl ?_
      refine ⟨_, ret_two' E.out.symm, ?_, bX⟩
      rw [EC.out.1, EC.out.2]; exact RepoOwn.none _ _
    | true =>
      obtain ⟨pl, hpl⟩ : ∃ pl, pl = M.plc H s := ⟨_, rfl⟩
      have K2 := headAt_any a n cap C a2 n2 cap2 H s w2 (HVW.out.later bW2).cm (HVW.out.later bW2).hs (HVW.out.later bW2).hm
      rw [← hpl] at K2
      have KA : Hid (Calls Tryz.prog 30 #[.agg #[.slice a n cap, .slice a2 n2 cap2], .string s] w2 fun e w' => e = .returned (.int .i64 pl) ∧ Below w2.heap.size w2 w') := K2
      have HPl : Aside (pl = M.plc H s) := hpl
      clear K2 hpl
      go_wp2_with fail
      refine KA.out.mono ?_
      rintro e w3 ⟨rfl, b3⟩
      have hb3 : Below w.heap.size w w3 := hb2.trans (b3.mono hb2.size)
      have r3 : w3.heap[R]? = some (.cells #[.slice none 0 0, .slice none 0 0] 25 (0, 0)) := (b3.block R hRl2).trans r2
      have hRl3 : R < w3.heap.size := (Array.getElem?_eq_some_iff.1 r3).1
      have bW3 : Below W.heap.size W w3 := bW2.trans (b3.mono bW2.size)
      have J3 := HI.out.below bW3
      have f0' := J3.c0
      have f1' := J3.c1
      clear b3 KA r2 J3 e0 e1
      by_cases hp0 : 0 ≤ pl
      · have E : Aside (M.brE C H s t = 6) := (M.brE_at HZ0.out).2.1 HT.out.symm (by rw [← HPl.out]; exact hp0)
        have hpb : decide (0 ≤ pl) = true := by simp [hp0]
        have EC : Aside (M.brC C H s t = [] ∧ M.brH C H s t = []) := ⟨by unfold M.brC; rw [if_neg (by rw [E.out]; decide)], by unfold M.brH; rw [if_neg (by rw [E.out]; decide)]⟩
        obtain ⟨g1, g2, g3⟩ := res_set r3 (.slice none 0 0) (.slice none 0 0)
        obtain ⟨X, hX⟩ : ∃ X, X = (w3.setCell ⟨R, 0, none⟩ (.slice none 0 0)).setCell ⟨R, 1, none⟩ (.slice none 0 0) := ⟨_, rfl⟩
        rw [← hX] at g1
        have bX : Below w.heap.size w X := by rw [hX]; exact (hb3.setCell (p := ⟨R, 0, none⟩) (by show _ ≤ R; have := HPR.out; omega) _).setCell (p := ⟨R, 1, none⟩) (by show _ ≤ R; have := HPR.out; omega) _
        have gX := g1
        have HX9 : Hid (X = (w3.setCell ⟨R, 0, none⟩ (.slice none 0 0)).setCell ⟨R, 1, none⟩ (.slice none 0 0)) := hX
        have HX0 : Aside (X.cell? ⟨R, 0, none⟩ = some (.slice none 0 0)) := by unfold Aside; rw [cell_of_row _ _ _ _ _ _ gX]; rfl
        have HX1 : Aside (X.cell? ⟨R, 1, none⟩ = some (.slice none 0 0)) := by unfold Aside; rw [cell_of_row _ _ _ _ _ _ gX]; rfl
        have x0 : w3.cell? ⟨R, 0, none⟩ = some (.slice none 0 0) := by rw [cell_of_row _ _ _ _ _ _ r3]; rfl
        have x1 : w3.cell? ⟨R, 1, none⟩ = some (.slice none 0 0) := by rw [cell_of_row _ _ _ _ _ _ r3]; rfl
        have f0 : w3.frozen? ⟨R, 0, none⟩ = false := frozen_of_row _ _ _ _ _ r3
        have f1 : w3.frozen? ⟨R, 1, none⟩ = false := frozen_of_row _ _ _ _ _ r3
        clear g1 g2 g3 hX gX r3
        go_wp2
        rw [← HX9.out]
        have y0 := HX0.out
        have y1 := HX1.out
        refine bodyPost_ret (v := .tuple #[.agg #[.slice none 0 0, .slice none 0 0], .int .i64 6]) (by simp [results, Tryz.results12, go_sem, y0, y1]) rfl ?_
        refine ⟨_, ret_two' E.out.symm, ?_, bX⟩
        rw [EC.out.1, EC.out.2]; exact RepoOwn.none _ _
      · have hpn : pl < 0 := by omega
        have hpb : decide (0 ≤ pl) = false := by simp; omega
        by_cases h4 : n2 = 4
        · have E : Aside (M.brE C H s t = 2) := (M.brE_at HZ0.out).2.2.1 HT.out.symm (by rw [← HPl.out]; exact hpn) (by rw [HNH.out]; exact h4)
          have h4b : ((n2 : Int) == 4) = true := by simp [h4]
          clear h4 hp0
          have EC : Aside (M.brC C H s t = [] ∧ M.brH C H s t = []) := ⟨by unfold M.brC; rw [if_neg (by rw [E.out]; decide)], by unfold M.brH; rw [if_neg (by rw [E.out]; decide)]⟩
          obtain ⟨g1, g2, g3⟩ := res_set r3 (.slice none 0 0) (.slice none 0 0)
          obtain ⟨X, hX⟩ : ∃ X, X = (w3.setCell ⟨R, 0, none⟩ (.slice none 0 0)).setCell ⟨R, 1, none⟩ (.slice none 0 0) := ⟨_, rfl⟩
          rw [← hX] at g1
          have bX : Below w.heap.size w X := by rw [hX]; exact (hb3.setCell (p := ⟨R, 0, none⟩) (by show _ ≤ R; have := HPR.out; omega) _).setCell (p := ⟨R, 1, none⟩) (by show _ ≤ R; have := HPR.out; omega) _
          have gX := g1
          have HX9 : Hid (X = (w3.setCell ⟨R, 0, none⟩ (.slice none 0 0)).setCell ⟨R, 1, none⟩ (.slice none 0 0)) := hX
          have HX0 : Aside (X.cell? ⟨R, 0, none⟩ = some (.slice none 0 0)) := by unfold Aside; rw [cell_of_row _ _ _ _ _ _ gX]; rfl
          have HX1 : Aside (X.cell? ⟨R, 1, none⟩ = some (.slice none 0 0)) := by unfold Aside; rw [cell_of_row _ _ _ _ _ _ gX]; rfl
          have x0 : w3.cell? ⟨R, 0, none⟩ = some (.slice none 0 0) := by rw [cell_of_row _ _ _ _ _ _ r3]; rfl
          have x1 : w3.cell? ⟨R, 1, none⟩ = some (.slice none 0 0) := by rw [cell_of_row _ _ _ _ _ _ r3]; rfl
          have f0 : w3.frozen? ⟨R, 0, none⟩ = false := frozen_of_row _ _ _ _ _ r3
          have f1 : w3.frozen? ⟨R, 1, none⟩ = false := frozen_of_row _ _ _ _ _ r3
          clear g1 g2 g3 hX gX r3
          go_wp2
          rw [← HX9.out]
          have y0 := HX0.out
          have y1 := HX1.out
          refine bodyPost_ret (v := .tuple #[.agg #[.slice none 0 0, .slice none 0 0], .int .i64 2]) (by simp [results, Tryz.results12, go_sem, y0, y1]) rfl ?_
          refine ⟨_, ret_two' E.out.symm, ?_, bX⟩
          rw [EC.out.1, EC.out.2]; exact RepoOwn.none _ _
        · have h4b : ((n2 : Int) == 4) = false := by simp; omega
          have E0 : Aside (M.brE C H s t = 0) := (M.brE_at HZ0.out).2.2.2 HT.out.symm (by rw [← HPl.out]; exact hpn) (by rw [HNH.out]; exact h4)
          have EC : Aside (M.brC C H s t = C ∧ M.brH C H s t = M.insH (s, x) H) := ⟨by unfold M.brC; rw [if_pos E0.out], by unfold M.brH; rw [if_pos E0.out, ← HX.out]⟩
          have KO : Hid (Calls Tryz.prog 44 #[.agg #[.slice a n cap, .slice a2 n2 cap2]] w3 fun e w' => ∃ v, e = .returned v ∧ RepoOwn w' w3.heap.size v C H ∧ Below w3.heap.size w3 w') := ownRepo_any a n cap C a2 n2 cap2 H w3 (HVW.out.later bW3) hr0
          have hn4 : n2 ≤ 4 := by rw [← HNH.out]; exact (M.rchk_zero hr0).2.1
          clear h4 hp0 hpn
          go_wp2_with fail
          refine KO.out.mono ?_
          rintro e w4 ⟨v, rfl, ⟨xx, yy, rfl, ok, oh⟩, b4⟩
          obtain ⟨xa, xc, rfl, _⟩ := ok.cm
          obtain ⟨ya, yc, rfl, _⟩ := oh.hs
          obtain ⟨D, hD⟩ : ∃ D, D = w4.heap.size := ⟨_, rfl⟩
          obtain ⟨m, hm⟩ : ∃ m, m = C.length := ⟨_, rfl⟩
          rw [← hm, HNH.out]
          rw [← hm] at ok
          obtain ⟨W6, hW6⟩ : ∃ W6, W6 = w4.alloc (.cells #[.slice xa m xc, .slice none 0 0] 25) := ⟨_, rfl⟩
          have bW6 : Below w4.heap.size w4 W6 := by rw [hW6]; exact (Below.refl _ _).alloc (Nat.le_refl _) _
          have hD3 : w3.heap.size ≤ D := by rw [hD]; exact b4.size
          have B6 : BAt w4 w3.heap.size D (.slice xa m xc) (.slice none 0 0) C [] W6 := ⟨by rw [hD]; exact bW6, by rw [hW6, hD]; exact heap_alloc_new _ _, ok.later bW6, OwnH.nil _ _⟩
          have HB6 : Aside (BAt w4 w3.heap.size D (.slice xa m xc) (.slice none 0 0) C [] W6) := B6
          have HW6 : Hid (W6 = w4.alloc (.cells #[.slice xa m xc, .slice none 0 0] 25)) := hW6
          have HD : Aside (D = w4.heap.size) := hD
          have hin := M.hat_in HZ0.out
          rw [← HX.out] at hin
          have HI4 : Hid (InBox w4 p a n cap C a2 n2 cap2 H) := HI.out.below (bW3.trans (b4.mono bW3.size))
          have r4 : w4.heap[R]? = some (.cells #[.slice none 0 0, .slice none 0 0] 25 (0, 0)) := (b4.block R hRl3).trans r3
          have hRD : R < D := by omega
          have hb4 : Below w.heap.size w w4 := hb3.trans (b4.mono hb3.size)
          have HWD : Hid (w.heap.size ≤ D) := by have := hb4.size; unfold Hid; omega
          have h30 : Hid (w.heap.size ≤ w3.heap.size) := hb3.size
          clear hW6 hD ok oh hm b4 bW6 B6 KO r3 f0' f1' hin
          go_wp2_with fail
          rw [← HD.out, ← HW6.out]
          go_loopg [12, 11] n2 (fun g i dn wr => ∃ (k : Nat) (d : Bool) (y : Value) (O : List M.Hd), k + g = n2 ∧ i = .int .i64 k ∧ dn = .bool d ∧ Aside (BAt w4 w3.heap.size D (.slice xa m xc) y C O wr) ∧ Aside (M.insOk (s, x) H k d O))
          case atStart => exact ⟨0, false, _, _, by omega, rfl, rfl, HB6, M.insOk_zero _ _⟩
          case round =>
            obtain ⟨k, dn, y, O, hk, rfl, rfl, HOk, HIn⟩ := hrel
            have bel4 : Below w4.heap.size w4 wr := by have := HOk.out.bel; rw [HD.out] at this; exact this
            have J := HI4.out.below bel4
            have d1 := J.c1
            have hlt := (Array.getElem?_eq_some_iff.1 HOk.out.blk).1
            by_cases hkn : k < n2
            · have hki : (k : Int) < (n2 : Int) := by omega
              obtain ⟨b, off, rfl, hB4, nk, ak, hnk, t0, t1, hns⟩ : ∃ b off, a2 = some ⟨b, off, none⟩ ∧ b < D ∧ ∃ nk ak, H.getD k M.hd0 = (nk, ak) ∧ wr.cell? ⟨b, off + k * 2, none⟩ = some (.string nk) ∧ wr.cell? ⟨b, off + k * 2 + 1, none⟩ = some (.int .i64 ak) ∧ nk.size ≤ 9223372036854775807 := by
                obtain ⟨_, h0 | ⟨b, off, e, hB, hc⟩⟩ := HI4.out.hs
                · omega
                · obtain ⟨_, h0' | ⟨b', off', e', _, hc'⟩⟩ := J.hs
                  · omega
                  · rw [e] at e'
                    cases e'
                    exact ⟨b, off, e, by rw [HD.out]; exact hB, _, _, rfl, (hc' k hkn).1, (hc' k hkn).2.1, (hc' k hkn).2.2⟩
              have HNk : Hid (H.getD k M.hd0 = (nk, ak)) := hnk
              have HNs : Hid (nk.size ≤ 9223372036854775807) := hns
              have hkH : k < H.length := by rw [HNH.out]; exact hkn
              have HKH : Hid (k < H.length) := hkH
              have HOl : Hid (O.length ≤ 5) := by have := HIn.out.2; unfold Hid; split at this <;> omega
              obtain ⟨za, zc, rfl, _⟩ := HOk.out.h.hs
              obtain ⟨zn, hzn⟩ : ∃ zn, zn = O.length := ⟨_, rfl⟩
              rw [← hzn] at HOk
              have k1 : wr.cell? ⟨D, 1, none⟩ = some (.slice za zn zc) := by rw [cell_of_row _ _ _ _ _ _ HOk.out.blk]; rfl
              have HZn : Aside (zn = O.length) := hzn
              clear hzn hns hnk hkH J
              cases dn with
              | true =>
                clear t0 t1 k1
                have hlwr := (Array.getElem?_eq_some_iff.1 HOk.out.blk).1
                have belwr : Below w4.heap.size w4 wr := by have := HOk.out.bel; rw [HD.out] at this; exact this
                have HSV : Hid (∀ V, Below wr.heap.size wr V → V.cell? ⟨D, 1, none⟩ = some (.slice za zn zc) ∧ V.cell? ⟨p, 1, none⟩ = some (.slice (some ⟨b, off, none⟩) n2 cap2) ∧ V.cell? ⟨b, off + k * 2, none⟩ = some (.string nk) ∧ V.cell? ⟨b, off + k * 2 + 1, none⟩ = some (.int .i64 ak)) := fun V hV => by
                  have q := belwr.trans (hV.mono belwr.size)
                  have j := HI4.out.below q
                  obtain ⟨_, h0 | ⟨b', off', e', _, hc'⟩⟩ := j.hs
                  · omega
                  · cases e'
                    have hk' := hc' k hkn
                    rw [HNk.out] at hk'
                    exact ⟨by rw [World.cell?_of_block (a := ⟨D, 1, none⟩) (hV.block D hlwr), cell_of_row _ _ _ _ _ _ HOk.out.blk]; rfl, j.c1, hk'.1, hk'.2.1⟩
                have HBd : Hid (Below wr.heap.size wr wr.drew) := (Below.refl _ _).drew
                have hDw : D ≤ wr.heap.size := Nat.le_of_lt hlwr
                have HOn : Hid (((O) : List M.Hd).length = zn) := by obtain ⟨_, _, e, _⟩ := HOk.out.h.hs; simp only [Value.slice.injEq] at e; exact e.2.1.symm
                have hO9 : zn ≤ 9 := by have h1 := HOl.out; have h2 := HOn.out; first | omega | (simp only [List.length_append, List.length_cons, List.length_nil] at h2; omega)
                go_wp2_with fail
                refine wp_region_till 10 (fun V => V.cell? ⟨D, 1, none⟩ = some (.slice za zn zc) ∧ V.cell? ⟨p, 1, none⟩ = some (.slice (some ⟨b, off, none⟩) n2 cap2) ∧ V.cell? ⟨b, off + k * 2, none⟩ = some (.string nk) ∧ V.cell? ⟨b, off + k * 2 + 1, none⟩ = some (.int .i64 ak)) (by kernel_rfl) (HSV.out _ HBd.out) (fun hHeld => ?_)
                refine till_go 0 (v := .pointer (some ⟨D, 1, none⟩)) rfl (by decide) (by kernel_rfl) (by kernel_rfl) (by kernel_rfl) (fun _ _ _ h => h) (Or.inl ⟨by rfl, fun V _ => (by go_simp)⟩) hHeld ?_
                try simp only [Act.put]
                refine till_take 1 (v := .slice za zn zc) rfl (by decide) (by kernel_rfl) (by kernel_rfl) (by kernel_rfl) (by kernel_rfl) (by kernel_rfl) (fun _ _ _ h => h) (Or.inl ⟨by rfl, fun V hV => (by obtain ⟨v0, v1, v2, v3⟩ := hV; go_simp)⟩) hHeld ?_
                try simp only [Act.put]
                refine till_go 2 (v := .pointer (some ⟨p, 1, none⟩)) rfl (by decide) (by kernel_rfl) (by kernel_rfl) (by kernel_rfl) (fun _ _ _ h => h) (Or.inl ⟨by rfl, fun V _ => (by go_simp)⟩) hHeld ?_
                try simp only [Act.put]
                refine till_take 3 (v := .slice (some ⟨b, off, none⟩) n2 cap2) rfl (by decide) (by kernel_rfl) (by kernel_rfl) (by kernel_rfl) (by kernel_rfl) (by kernel_rfl) (fun _ _ _ h => h) (Or.inl ⟨by rfl, fun V hV => (by obtain ⟨v0, v1, v2, v3⟩ := hV; go_simp)⟩) hHeld ?_
                try simp only [Act.put]
                refine till_go 4 (v := .int .i64 (k : Int)) rfl (by decide) (by kernel_rfl) (by kernel_rfl) (by kernel_rfl) (fun _ _ _ h => h) (Or.inl ⟨by rfl, fun V _ => (by go_simp)⟩) hHeld ?_
                try simp only [Act.put]
                refine till_go 5 (v := .pointer (some ⟨b, off + k * 2, none⟩)) rfl (by decide) (by kernel_rfl) (by kernel_rfl) (by kernel_rfl) (fun _ _ _ h => h) (Or.inl ⟨by rfl, fun V _ => (by go_simp)⟩) hHeld ?_
                try simp only [Act.put]
                refine till_take 6 (v := .agg #[.string nk, .int .i64 ak]) rfl (by decide) (by kernel_rfl) (by kernel_rfl) (by kernel_rfl) (by kernel_rfl) (by kernel_rfl) (fun _ _ _ h => h) (Or.inl ⟨by rfl, fun V hV => (by obtain ⟨v0, v1, v2, v3⟩ := hV; go_simp)⟩) hHeld ?_
                try simp only [Act.put]
                refine till_step 7 rfl (by decide) (by kernel_rfl) (fun K hK => ?_)
                go_simp
                have pb7 : Below wr.heap.size wr (wr.alloc (.cells #[.string nk, .int .i64 ak] 66)).drew := ((Below.refl _ _).alloc (Nat.le_refl _) _).drew
                refine hK.out _ _ (HSV.out _ pb7) (fun hHeld => ?_)
                clear hK K
                refine till_step 8 rfl (by decide) (by kernel_rfl) (fun K hK => ?_)
                refine step_heads rfl _ _ rfl D _ (O) rfl (HOk.out.h.later pb7) (some ⟨wr.heap.size, 0, none⟩) 1 1 [(nk, ak)] rfl ((head_new wr nk ak HNs.out).below ((Below.refl _ _).drew) (Nat.le_refl _)) (fun h => by simp at h) (by rw [HOn.out]; omega) (Nat.le_trans hDw pb7.size) ?_
                intro v8 w8 o8 g8
                obtain ⟨qa, qc, rfl, _⟩ := o8.hs
                obtain ⟨qn, hqn⟩ : ∃ qn, qn = ((O) ++ [(nk, ak)]).length := ⟨_, rfl⟩
                rw [← hqn] at o8 ⊢
                obtain ⟨P1, P2⟩ := HOk.out.put (q := (nk, ak)) (y' := .slice qa qn qc) (.cells #[.string nk, .int .i64 ak] 66) o8 ⟨g8.os, g8.tape, g8.output, g8.size, fun k hk hne => g8.block k hk hne⟩
                have k8 : w8.cell? ⟨D, 1, none⟩ = some (.slice za zn zc) := by rw [cell_of_row _ _ _ _ _ _ P2]; rfl
                have f8 : w8.frozen? ⟨D, 1, none⟩ = false := frozen_of_row _ _ _ _ _ P2
                have pb8 : Below D wr w8 := ((Below.refl _ _).alloc hDw _).drew.trans (below_grown g8 (fun k e => (World.ownsRow.lt HOk.out.h.1 k e).1) (by simp; omega))
                have hA8 : Hid (w8.cell? ⟨D, 1, none⟩ = some (.slice za zn zc) ∧ w8.cell? ⟨p, 1, none⟩ = some (.slice (some ⟨b, off, none⟩) n2 cap2) ∧ w8.cell? ⟨b, off + k * 2, none⟩ = some (.string nk) ∧ w8.cell? ⟨b, off + k * 2 + 1, none⟩ = some (.int .i64 ak)) := by
                  have q := HSV.out _ (Below.refl _ _)
                  have hbD : b < D := hB4
                  exact ⟨k8, (pb8.cell (p := ⟨p, 1, none⟩) (by show p < D; omega)).trans q.2.1, (pb8.cell (p := ⟨b, off + k * 2, none⟩) hbD).trans q.2.2.1, (pb8.cell (p := ⟨b, off + k * 2 + 1, none⟩) hbD).trans q.2.2.2⟩
                have HE8 : Aside (BAt w4 w3.heap.size D (.slice xa m xc) (.slice qa qn qc) C ((O) ++ [(nk, ak)]) (w8.setCell ⟨D, 1, none⟩ (.slice qa qn qc))) := P1
                have HIn8 : Aside (M.insOk (s, x) H (k + 1) true ((O) ++ [(nk, ak)])) := by have := M.insOk_by HIn.out HKH.out (fun h => by cases h); rw [HNk.out] at this; exact this
                clear P1 P2 o8 g8 pb7 pb8 hqn
                refine hK.out _ _ hA8.out (fun hHeld => ?_)
                clear hK K
                refine till_go 9 (v := .pointer (some ⟨D, 1, none⟩)) rfl (by decide) (by kernel_rfl) (by kernel_rfl) (by kernel_rfl) (fun _ _ _ h => h) (Or.inl ⟨by rfl, fun V _ => (by go_simp)⟩) hHeld ?_
                try simp only [Act.put]
                refine till_last rfl (by kernel_rfl) (by kernel_rfl) (fun K hK => ?_) _
                go_simp
                refine hK.out _ _ ?_
                clear hK K
                clear hA8 HSV HBd
                go_wp2
                go_roundg (gk - 1)
                case measure => omega
                case rel => exact ⟨k + 1, true, _, _, by omega, by go_num, rfl, HE8, HIn8⟩
              | false =>
                cases ht1 : Op.bytesLess nk.toList s.toList with
                | true =>
                  have HLe : Hid (M.less (s, x).1 (H.getD k M.hd0).1 = false) := by unfold Hid; rw [HNk.out]; have := M.leq_not nk s; rw [ht1] at this; simpa using this.symm
                  clear t1 k1
                  have hlwr := (Array.getElem?_eq_some_iff.1 HOk.out.blk).1
                  have belwr : Below w4.heap.size w4 wr := by have := HOk.out.bel; rw [HD.out] at this; exact this
                  have HSV : Hid (∀ V, Below wr.heap.size wr V → V.cell? ⟨D, 1, none⟩ = some (.slice za zn zc) ∧ V.cell? ⟨p, 1, none⟩ = some (.slice (some ⟨b, off, none⟩) n2 cap2) ∧ V.cell? ⟨b, off + k * 2, none⟩ = some (.string nk) ∧ V.cell? ⟨b, off + k * 2 + 1, none⟩ = some (.int .i64 ak)) := fun V hV => by
                    have q := belwr.trans (hV.mono belwr.size)
                    have j := HI4.out.below q
                    obtain ⟨_, h0 | ⟨b', off', e', _, hc'⟩⟩ := j.hs
                    · omega
                    · cases e'
                      have hk' := hc' k hkn
                      rw [HNk.out] at hk'
                      exact ⟨by rw [World.cell?_of_block (a := ⟨D, 1, none⟩) (hV.block D hlwr), cell_of_row _ _ _ _ _ _ HOk.out.blk]; rfl, j.c1, hk'.1, hk'.2.1⟩
                  have HBd : Hid (Below wr.heap.size wr wr.drew) := (Below.refl _ _).drew
                  have hDw : D ≤ wr.heap.size := Nat.le_of_lt hlwr
                  have HOn : Hid (((O) : List M.Hd).length = zn) := by obtain ⟨_, _, e, _⟩ := HOk.out.h.hs; simp only [Value.slice.injEq] at e; exact e.2.1.symm
                  have hO9 : zn ≤ 9 := by have h1 := HOl.out; have h2 := HOn.out; first | omega | (simp only [List.length_append, List.length_cons, List.length_nil] at h2; omega)
                  go_wp2_with fail
                  refine wp_region_till 10 (fun V => V.cell? ⟨D, 1, none⟩ = some (.slice za zn zc) ∧ V.cell? ⟨p, 1, none⟩ = some (.slice (some ⟨b, off, none⟩) n2 cap2) ∧ V.cell? ⟨b, off + k * 2, none⟩ = some (.string nk) ∧ V.cell? ⟨b, off + k * 2 + 1, none⟩ = some (.int .i64 ak)) (by kernel_rfl) (HSV.out _ HBd.out) (fun hHeld => ?_)
                  refine till_go 0 (v := .pointer (some ⟨D, 1, none⟩)) rfl (by decide) (by kernel_rfl) (by kernel_rfl) (by kernel_rfl) (fun _ _ _ h => h) (Or.inl ⟨by rfl, fun V _ => (by go_simp)⟩) hHeld ?_
                  try simp only [Act.put]
                  refine till_take 1 (v := .slice za zn zc) rfl (by decide) (by kernel_rfl) (by kernel_rfl) (by kernel_rfl) (by kernel_rfl) (by kernel_rfl) (fun _ _ _ h => h) (Or.inl ⟨by rfl, fun V hV => (by obtain ⟨v0, v1, v2, v3⟩ := hV; go_simp)⟩) hHeld ?_
                  try simp only [Act.put]
                  refine till_go 2 (v := .pointer (some ⟨p, 1, none⟩)) rfl (by decide) (by kernel_rfl) (by kernel_rfl) (by kernel_rfl) (fun _ _ _ h => h) (Or.inl ⟨by rfl, fun V _ => (by go_simp)⟩) hHeld ?_
                  try simp only [Act.put]
                  refine till_take 3 (v := .slice (some ⟨b, off, none⟩) n2 cap2) rfl (by decide) (by kernel_rfl) (by kernel_rfl) (by kernel_rfl) (by kernel_rfl) (by kernel_rfl) (fun _ _ _ h => h) (Or.inl ⟨by rfl, fun V hV => (by obtain ⟨v0, v1, v2, v3⟩ := hV; go_simp)⟩) hHeld ?_
                  try simp only [Act.put]
                  refine till_go 4 (v := .int .i64 (k : Int)) rfl (by decide) (by kernel_rfl) (by kernel_rfl) (by kernel_rfl) (fun _ _ _ h => h) (Or.inl ⟨by rfl, fun V _ => (by go_simp)⟩) hHeld ?_
                  try simp only [Act.put]
                  refine till_go 5 (v := .pointer (some ⟨b, off + k * 2, none⟩)) rfl (by decide) (by kernel_rfl) (by kernel_rfl) (by kernel_rfl) (fun _ _ _ h => h) (Or.inl ⟨by rfl, fun V _ => (by go_simp)⟩) hHeld ?_
                  try simp only [Act.put]
                  refine till_take 6 (v := .agg #[.string nk, .int .i64 ak]) rfl (by decide) (by kernel_rfl) (by kernel_rfl) (by kernel_rfl) (by kernel_rfl) (by kernel_rfl) (fun _ _ _ h => h) (Or.inl ⟨by rfl, fun V hV => (by obtain ⟨v0, v1, v2, v3⟩ := hV; go_simp)⟩) hHeld ?_
                  try simp only [Act.put]
                  refine till_step 7 rfl (by decide) (by kernel_rfl) (fun K hK => ?_)
                  go_simp
                  have pb7 : Below wr.heap.size wr (wr.alloc (.cells #[.string nk, .int .i64 ak] 66)).drew := ((Below.refl _ _).alloc (Nat.le_refl _) _).drew
                  refine hK.out _ _ (HSV.out _ pb7) (fun hHeld => ?_)
                  clear hK K
                  refine till_step 8 rfl (by decide) (by kernel_rfl) (fun K hK => ?_)
                  refine step_heads rfl _ _ rfl D _ (O) rfl (HOk.out.h.later pb7) (some ⟨wr.heap.size, 0, none⟩) 1 1 [(nk, ak)] rfl ((head_new wr nk ak HNs.out).below ((Below.refl _ _).drew) (Nat.le_refl _)) (fun h => by simp at h) (by rw [HOn.out]; omega) (Nat.le_trans hDw pb7.size) ?_
                  intro v8 w8 o8 g8
                  obtain ⟨qa, qc, rfl, _⟩ := o8.hs
                  obtain ⟨qn, hqn⟩ : ∃ qn, qn = ((O) ++ [(nk, ak)]).length := ⟨_, rfl⟩
                  rw [← hqn] at o8 ⊢
                  obtain ⟨P1, P2⟩ := HOk.out.put (q := (nk, ak)) (y' := .slice qa qn qc) (.cells #[.string nk, .int .i64 ak] 66) o8 ⟨g8.os, g8.tape, g8.output, g8.size, fun k hk hne => g8.block k hk hne⟩
                  have k8 : w8.cell? ⟨D, 1, none⟩ = some (.slice za zn zc) := by rw [cell_of_row _ _ _ _ _ _ P2]; rfl
                  have f8 : w8.frozen? ⟨D, 1, none⟩ = false := frozen_of_row _ _ _ _ _ P2
                  have pb8 : Below D wr w8 := ((Below.refl _ _).alloc hDw _).drew.trans (below_grown g8 (fun k e => (World.ownsRow.lt HOk.out.h.1 k e).1) (by simp; omega))
                  have hA8 : Hid (w8.cell? ⟨D, 1, none⟩ = some (.slice za zn zc) ∧ w8.cell? ⟨p, 1, none⟩ = some (.slice (some ⟨b, off, none⟩) n2 cap2) ∧ w8.cell? ⟨b, off + k * 2, none⟩ = some (.string nk) ∧ w8.cell? ⟨b, off + k * 2 + 1, none⟩ = some (.int .i64 ak)) := by
                    have q := HSV.out _ (Below.refl _ _)
                    have hbD : b < D := hB4
                    exact ⟨k8, (pb8.cell (p := ⟨p, 1, none⟩) (by show p < D; omega)).trans q.2.1, (pb8.cell (p := ⟨b, off + k * 2, none⟩) hbD).trans q.2.2.1, (pb8.cell (p := ⟨b, off + k * 2 + 1, none⟩) hbD).trans q.2.2.2⟩
                  have HE8 : Aside (BAt w4 w3.heap.size D (.slice xa m xc) (.slice qa qn qc) C ((O) ++ [(nk, ak)]) (w8.setCell ⟨D, 1, none⟩ (.slice qa qn qc))) := P1
                  have HIn8 : Aside (M.insOk (s, x) H (k + 1) false ((O) ++ [(nk, ak)])) := by have := M.insOk_by HIn.out HKH.out (fun _ => HLe.out); rw [HNk.out] at this; exact this
                  clear P1 P2 o8 g8 pb7 pb8 hqn
                  refine hK.out _ _ hA8.out (fun hHeld => ?_)
                  clear hK K
                  refine till_go 9 (v := .pointer (some ⟨D, 1, none⟩)) rfl (by decide) (by kernel_rfl) (by kernel_rfl) (by kernel_rfl) (fun _ _ _ h => h) (Or.inl ⟨by rfl, fun V _ => (by go_simp)⟩) hHeld ?_
                  try simp only [Act.put]
                  refine till_last rfl (by kernel_rfl) (by kernel_rfl) (fun K hK => ?_) _
                  go_simp
                  refine hK.out _ _ ?_
                  clear hK K
                  clear hA8 HSV HBd
                  go_wp2
                  go_roundg (gk - 1)
                  case measure => omega
                  case rel => exact ⟨k + 1, false, _, _, by omega, by go_num, rfl, HE8, HIn8⟩
                | false =>
                  cases ht2 : nk.toList == s.toList with
                  | true =>
                      have HLe : Hid (M.less (s, x).1 (H.getD k M.hd0).1 = false) := by unfold Hid; rw [HNk.out]; have := M.leq_not nk s; rw [ht1, ht2] at this; simpa using this.symm
                      clear t1 k1
                      have hlwr := (Array.getElem?_eq_some_iff.1 HOk.out.blk).1
                      have belwr : Below w4.heap.size w4 wr := by have := HOk.out.bel; rw [HD.out] at this; exact this
                      have HSV : Hid (∀ V, Below wr.heap.size wr V → V.cell? ⟨D, 1, none⟩ = some (.slice za zn zc) ∧ V.cell? ⟨p, 1, none⟩ = some (.slice (some ⟨b, off, none⟩) n2 cap2) ∧ V.cell? ⟨b, off + k * 2, none⟩ = some (.string nk) ∧ V.cell? ⟨b, off + k * 2 + 1, none⟩ = some (.int .i64 ak)) := fun V hV => by
                        have q := belwr.trans (hV.mono belwr.size)
                        have j := HI4.out.below q
                        obtain ⟨_, h0 | ⟨b', off', e', _, hc'⟩⟩ := j.hs
                        · omega
                        · cases e'
                          have hk' := hc' k hkn
                          rw [HNk.out] at hk'
                          exact ⟨by rw [World.cell?_of_block (a := ⟨D, 1, none⟩) (hV.block D hlwr), cell_of_row _ _ _ _ _ _ HOk.out.blk]; rfl, j.c1, hk'.1, hk'.2.1⟩
                      have HBd : Hid (Below wr.heap.size wr wr.drew) := (Below.refl _ _).drew
                      have hDw : D ≤ wr.heap.size := Nat.le_of_lt hlwr
                      have HOn : Hid (((O) : List M.Hd).length = zn) := by obtain ⟨_, _, e, _⟩ := HOk.out.h.hs; simp only [Value.slice.injEq] at e; exact e.2.1.symm
                      have hO9 : zn ≤ 9 := by have h1 := HOl.out; have h2 := HOn.out; first | omega | (simp only [List.length_append, List.length_cons, List.length_nil] at h2; omega)
                      go_wp2_with fail
                      refine wp_region_till 10 (fun V => V.cell? ⟨D, 1, none⟩ = some (.slice za zn zc) ∧ V.cell? ⟨p, 1, none⟩ = some (.slice (some ⟨b, off, none⟩) n2 cap2) ∧ V.cell? ⟨b, off + k * 2, none⟩ = some (.string nk) ∧ V.cell? ⟨b, off + k * 2 + 1, none⟩ = some (.int .i64 ak)) (by kernel_rfl) (HSV.out _ HBd.out) (fun hHeld => ?_)
                      refine till_go 0 (v := .pointer (some ⟨D, 1, none⟩)) rfl (by decide) (by kernel_rfl) (by kernel_rfl) (by kernel_rfl) (fun _ _ _ h => h) (Or.inl ⟨by rfl, fun V _ => (by go_simp)⟩) hHeld ?_
                      try simp only [Act.put]
                      refine till_take 1 (v := .slice za zn zc) rfl (by decide) (by kernel_rfl) (by kernel_rfl) (by kernel_rfl) (by kernel_rfl) (by kernel_rfl) (fun _ _ _ h => h) (Or.inl ⟨by rfl, fun V hV => (by obtain ⟨v0, v1, v2, v3⟩ := hV; go_simp)⟩) hHeld ?_
                      try simp only [Act.put]
                      refine till_go 2 (v := .pointer (some ⟨p, 1, none⟩)) rfl (by decide) (by kernel_rfl) (by kernel_rfl) (by kernel_rfl) (fun _ _ _ h => h) (Or.inl ⟨by rfl, fun V _ => (by go_simp)⟩) hHeld ?_
                      try simp only [Act.put]
                      refine till_take 3 (v := .slice (some ⟨b, off, none⟩) n2 cap2) rfl (by decide) (by kernel_rfl) (by kernel_rfl) (by kernel_rfl) (by kernel_rfl) (by kernel_rfl) (fun _ _ _ h => h) (Or.inl ⟨by rfl, fun V hV => (by obtain ⟨v0, v1, v2, v3⟩ := hV; go_simp)⟩) hHeld ?_
                      try simp only [Act.put]
                      refine till_go 4 (v := .int .i64 (k : Int)) rfl (by decide) (by kernel_rfl) (by kernel_rfl) (by kernel_rfl) (fun _ _ _ h => h) (Or.inl ⟨by rfl, fun V _ => (by go_simp)⟩) hHeld ?_
                      try simp only [Act.put]
                      refine till_go 5 (v := .pointer (some ⟨b, off + k * 2, none⟩)) rfl (by decide) (by kernel_rfl) (by kernel_rfl) (by kernel_rfl) (fun _ _ _ h => h) (Or.inl ⟨by rfl, fun V _ => (by go_simp)⟩) hHeld ?_
                      try simp only [Act.put]
                      refine till_take 6 (v := .agg #[.string nk, .int .i64 ak]) rfl (by decide) (by kernel_rfl) (by kernel_rfl) (by kernel_rfl) (by kernel_rfl) (by kernel_rfl) (fun _ _ _ h => h) (Or.inl ⟨by rfl, fun V hV => (by obtain ⟨v0, v1, v2, v3⟩ := hV; go_simp)⟩) hHeld ?_
                      try simp only [Act.put]
                      refine till_step 7 rfl (by decide) (by kernel_rfl) (fun K hK => ?_)
                      go_simp
                      have pb7 : Below wr.heap.size wr (wr.alloc (.cells #[.string nk, .int .i64 ak] 66)).drew := ((Below.refl _ _).alloc (Nat.le_refl _) _).drew
                      refine hK.out _ _ (HSV.out _ pb7) (fun hHeld => ?_)
                      clear hK K
                      refine till_step 8 rfl (by decide) (by kernel_rfl) (fun K hK => ?_)
                      refine step_heads rfl _ _ rfl D _ (O) rfl (HOk.out.h.later pb7) (some ⟨wr.heap.size, 0, none⟩) 1 1 [(nk, ak)] rfl ((head_new wr nk ak HNs.out).below ((Below.refl _ _).drew) (Nat.le_refl _)) (fun h => by simp at h) (by rw [HOn.out]; omega) (Nat.le_trans hDw pb7.size) ?_
                      intro v8 w8 o8 g8
                      obtain ⟨qa, qc, rfl, _⟩ := o8.hs
                      obtain ⟨qn, hqn⟩ : ∃ qn, qn = ((O) ++ [(nk, ak)]).length := ⟨_, rfl⟩
                      rw [← hqn] at o8 ⊢
                      obtain ⟨P1, P2⟩ := HOk.out.put (q := (nk, ak)) (y' := .slice qa qn qc) (.cells #[.string nk, .int .i64 ak] 66) o8 ⟨g8.os, g8.tape, g8.output, g8.size, fun k hk hne => g8.block k hk hne⟩
                      have k8 : w8.cell? ⟨D, 1, none⟩ = some (.slice za zn zc) := by rw [cell_of_row _ _ _ _ _ _ P2]; rfl
                      have f8 : w8.frozen? ⟨D, 1, none⟩ = false := frozen_of_row _ _ _ _ _ P2
                      have pb8 : Below D wr w8 := ((Below.refl _ _).alloc hDw _).drew.trans (below_grown g8 (fun k e => (World.ownsRow.lt HOk.out.h.1 k e).1) (by simp; omega))
                      have hA8 : Hid (w8.cell? ⟨D, 1, none⟩ = some (.slice za zn zc) ∧ w8.cell? ⟨p, 1, none⟩ = some (.slice (some ⟨b, off, none⟩) n2 cap2) ∧ w8.cell? ⟨b, off + k * 2, none⟩ = some (.string nk) ∧ w8.cell? ⟨b, off + k * 2 + 1, none⟩ = some (.int .i64 ak)) := by
                        have q := HSV.out _ (Below.refl _ _)
                        have hbD : b < D := hB4
                        exact ⟨k8, (pb8.cell (p := ⟨p, 1, none⟩) (by show p < D; omega)).trans q.2.1, (pb8.cell (p := ⟨b, off + k * 2, none⟩) hbD).trans q.2.2.1, (pb8.cell (p := ⟨b, off + k * 2 + 1, none⟩) hbD).trans q.2.2.2⟩
                      have HE8 : Aside (BAt w4 w3.heap.size D (.slice xa m xc) (.slice qa qn qc) C ((O) ++ [(nk, ak)]) (w8.setCell ⟨D, 1, none⟩ (.slice qa qn qc))) := P1
                      have HIn8 : Aside (M.insOk (s, x) H (k + 1) false ((O) ++ [(nk, ak)])) := by have := M.insOk_by HIn.out HKH.out (fun _ => HLe.out); rw [HNk.out] at this; exact this
                      clear P1 P2 o8 g8 pb7 pb8 hqn
                      refine hK.out _ _ hA8.out (fun hHeld => ?_)
                      clear hK K
                      refine till_go 9 (v := .pointer (some ⟨D, 1, none⟩)) rfl (by decide) (by kernel_rfl) (by kernel_rfl) (by kernel_rfl) (fun _ _ _ h => h) (Or.inl ⟨by rfl, fun V _ => (by go_simp)⟩) hHeld ?_
                      try simp only [Act.put]
                      refine till_last rfl (by kernel_rfl) (by kernel_rfl) (fun K hK => ?_) _
                      go_simp
                      refine hK.out _ _ ?_
                      clear hK K
                      clear hA8 HSV HBd
                      go_wp2
                      go_roundg (gk - 1)
                      case measure => omega
                      case rel => exact ⟨k + 1, false, _, _, by omega, by go_num, rfl, HE8, HIn8⟩
                  | false =>
                      have HLe : Hid (M.less (s, x).1 (H.getD k M.hd0).1 = true) := by unfold Hid; rw [HNk.out]; have := M.leq_not nk s; rw [ht1, ht2] at this; simpa using this.symm
                      have HOA : Hid (OwnH (wr.alloc (.cells #[.string s, .int .i64 x] 66)) D (.slice za zn zc) O) := HOk.out.h.later ((Below.refl _ _).alloc (Nat.le_refl _) _)
                      have HHN : Hid (Hs (wr.alloc (.cells #[.string s, .int .i64 x] 66)) (some ⟨wr.heap.size, 0, none⟩) 1 [(s, x)]) := head_new wr s x hss
                      have hzn5 : O.length + 1 ≤ 1000000 := by have := HOl.out; omega
                      have hDa : D ≤ (wr.alloc (.cells #[.string s, .int .i64 x] 66)).heap.size := by simp; omega
                      clear t1
                      go_wp2_with (at_builtin; refine wpl_heads rfl _ _ rfl D _ O rfl HOA.out (some ⟨wr.heap.size, 0, none⟩) 1 1 [(s, x)] rfl HHN.out (fun h => by simp at h) hzn5 hDa ?_)
                      intro v7 w7 o7 g7
                      obtain ⟨ra7, rc7, rfl, _⟩ := o7.hs
                      obtain ⟨rn7, hrn7⟩ : ∃ rn, rn = (O ++ [(s, x)]).length := ⟨_, rfl⟩
                      rw [← hrn7] at o7 ⊢
                      obtain ⟨P1, P2⟩ := HOk.out.put (q := (s, x)) (y' := .slice ra7 rn7 rc7) _ o7 g7
                      have k7 : w7.cell? ⟨D, 1, none⟩ = some (.slice za zn zc) := by rw [cell_of_row _ _ _ _ _ _ P2]; rfl
                      have f7 : w7.frozen? ⟨D, 1, none⟩ = false := frozen_of_row _ _ _ _ _ P2
                      obtain ⟨W8, hW8⟩ : ∃ W8, W8 = w7.setCell ⟨D, 1, none⟩ (.slice ra7 rn7 rc7) := ⟨_, rfl⟩
                      rw [← hW8] at P1
                      have HO8 : Aside (BAt w4 w3.heap.size D (.slice xa m xc) (.slice ra7 rn7 rc7) C (O ++ [(s, x)]) W8) := P1
                      have HW8 : Hid (W8 = w7.setCell ⟨D, 1, none⟩ (.slice ra7 rn7 rc7)) := hW8
                      clear hW8 P1 P2 o7 g7 hrn7 k1 t0 HOA HHN
                      go_wp2_with fail
                      rw [← HW8.out]
                      clear k7 f7
                      have hlW8 := (Array.getElem?_eq_some_iff.1 HO8.out.blk).1
                      have belW8 : Below w4.heap.size w4 W8 := by have := HO8.out.bel; rw [HD.out] at this; exact this
                      have HSV : Hid (∀ V, Below W8.heap.size W8 V → V.cell? ⟨D, 1, none⟩ = some (.slice ra7 rn7 rc7) ∧ V.cell? ⟨p, 1, none⟩ = some (.slice (some ⟨b, off, none⟩) n2 cap2) ∧ V.cell? ⟨b, off + k * 2, none⟩ = some (.string nk) ∧ V.cell? ⟨b, off + k * 2 + 1, none⟩ = some (.int .i64 ak)) := fun V hV => by
                        have q := belW8.trans (hV.mono belW8.size)
                        have j := HI4.out.below q
                        obtain ⟨_, h0 | ⟨b', off', e', _, hc'⟩⟩ := j.hs
                        · omega
                        · cases e'
                          have hk' := hc' k hkn
                          rw [HNk.out] at hk'
                          exact ⟨by rw [World.cell?_of_block (a := ⟨D, 1, none⟩) (hV.block D hlW8), cell_of_row _ _ _ _ _ _ HO8.out.blk]; rfl, j.c1, hk'.1, hk'.2.1⟩
                      have HBd : Hid (Below W8.heap.size W8 W8.drew) := (Below.refl _ _).drew
                      have hDw : D ≤ W8.heap.size := Nat.le_of_lt hlW8
                      have HOn : Hid (((O ++ [(s, x)]) : List M.Hd).length = rn7) := by obtain ⟨_, _, e, _⟩ := HO8.out.h.hs; simp only [Value.slice.injEq] at e; exact e.2.1.symm
                      have hO9 : rn7 ≤ 9 := by have h1 := HOl.out; have h2 := HOn.out; first | omega | (simp only [List.length_append, List.length_cons, List.length_nil] at h2; omega)
                      go_wp2_with fail
                      refine wp_region_till 10 (fun V => V.cell? ⟨D, 1, none⟩ = some (.slice ra7 rn7 rc7) ∧ V.cell? ⟨p, 1, none⟩ = some (.slice (some ⟨b, off, none⟩) n2 cap2) ∧ V.cell? ⟨b, off + k * 2, none⟩ = some (.string nk) ∧ V.cell? ⟨b, off + k * 2 + 1, none⟩ = some (.int .i64 ak)) (by kernel_rfl) (HSV.out _ HBd.out) (fun hHeld => ?_)
                      refine till_go 0 (v := .pointer (some ⟨D, 1, none⟩)) rfl (by decide) (by kernel_rfl) (by kernel_rfl) (by kernel_rfl) (fun _ _ _ h => h) (Or.inl ⟨by rfl, fun V _ => (by go_simp)⟩) hHeld ?_
                      try simp only [Act.put]
                      refine till_take 1 (v := .slice ra7 rn7 rc7) rfl (by decide) (by kernel_rfl) (by kernel_rfl) (by kernel_rfl) (by kernel_rfl) (by kernel_rfl) (fun _ _ _ h => h) (Or.inl ⟨by rfl, fun V hV => (by obtain ⟨v0, v1, v2, v3⟩ := hV; go_simp)⟩) hHeld ?_
                      try simp only [Act.put]
                      refine till_go 2 (v := .pointer (some ⟨p, 1, none⟩)) rfl (by decide) (by kernel_rfl) (by kernel_rfl) (by kernel_rfl) (fun _ _ _ h => h) (Or.inl ⟨by rfl, fun V _ => (by go_simp)⟩) hHeld ?_
                      try simp only [Act.put]
                      refine till_take 3 (v := .slice (some ⟨b, off, none⟩) n2 cap2) rfl (by decide) (by kernel_rfl) (by kernel_rfl) (by kernel_rfl) (by kernel_rfl) (by kernel_rfl) (fun _ _ _ h => h) (Or.inl ⟨by rfl, fun V hV => (by obtain ⟨v0, v1, v2, v3⟩ := hV; go_simp)⟩) hHeld ?_
                      try simp only [Act.put]
                      refine till_go 4 (v := .int .i64 (k : Int)) rfl (by decide) (by kernel_rfl) (by kernel_rfl) (by kernel_rfl) (fun _ _ _ h => h) (Or.inl ⟨by rfl, fun V _ => (by go_simp)⟩) hHeld ?_
                      try simp only [Act.put]
                      refine till_go 5 (v := .pointer (some ⟨b, off + k * 2, none⟩)) rfl (by decide) (by kernel_rfl) (by kernel_rfl) (by kernel_rfl) (fun _ _ _ h => h) (Or.inl ⟨by rfl, fun V _ => (by go_simp)⟩) hHeld ?_
                      try simp only [Act.put]
                      refine till_take 6 (v := .agg #[.string nk, .int .i64 ak]) rfl (by decide) (by kernel_rfl) (by kernel_rfl) (by kernel_rfl) (by kernel_rfl) (by kernel_rfl) (fun _ _ _ h => h) (Or.inl ⟨by rfl, fun V hV => (by obtain ⟨v0, v1, v2, v3⟩ := hV; go_simp)⟩) hHeld ?_
                      try simp only [Act.put]
                      refine till_step 7 rfl (by decide) (by kernel_rfl) (fun K hK => ?_)
                      go_simp
                      have pb7 : Below W8.heap.size W8 (W8.alloc (.cells #[.string nk, .int .i64 ak] 66)).drew := ((Below.refl _ _).alloc (Nat.le_refl _) _).drew
                      refine hK.out _ _ (HSV.out _ pb7) (fun hHeld => ?_)
                      clear hK K
                      refine till_step 8 rfl (by decide) (by kernel_rfl) (fun K hK => ?_)
                      refine step_heads rfl _ _ rfl D _ (O ++ [(s, x)]) rfl (HO8.out.h.later pb7) (some ⟨W8.heap.size, 0, none⟩) 1 1 [(nk, ak)] rfl ((head_new W8 nk ak HNs.out).below ((Below.refl _ _).drew) (Nat.le_refl _)) (fun h => by simp at h) (by rw [HOn.out]; omega) (Nat.le_trans hDw pb7.size) ?_
                      intro v8 w8 o8 g8
                      obtain ⟨qa, qc, rfl, _⟩ := o8.hs
                      obtain ⟨qn, hqn⟩ : ∃ qn, qn = ((O ++ [(s, x)]) ++ [(nk, ak)]).length := ⟨_, rfl⟩
                      rw [← hqn] at o8 ⊢
                      obtain ⟨P1, P2⟩ := HO8.out.put (q := (nk, ak)) (y' := .slice qa qn qc) (.cells #[.string nk, .int .i64 ak] 66) o8 ⟨g8.os, g8.tape, g8.output, g8.size, fun k hk hne => g8.block k hk hne⟩
                      have k8 : w8.cell? ⟨D, 1, none⟩ = some (.slice ra7 rn7 rc7) := by rw [cell_of_row _ _ _ _ _ _ P2]; rfl
                      have f8 : w8.frozen? ⟨D, 1, none⟩ = false := frozen_of_row _ _ _ _ _ P2
                      have pb8 : Below D W8 w8 := ((Below.refl _ _).alloc hDw _).drew.trans (below_grown g8 (fun k e => (World.ownsRow.lt HO8.out.h.1 k e).1) (by simp; omega))
                      have hA8 : Hid (w8.cell? ⟨D, 1, none⟩ = some (.slice ra7 rn7 rc7) ∧ w8.cell? ⟨p, 1, none⟩ = some (.slice (some ⟨b, off, none⟩) n2 cap2) ∧ w8.cell? ⟨b, off + k * 2, none⟩ = some (.string nk) ∧ w8.cell? ⟨b, off + k * 2 + 1, none⟩ = some (.int .i64 ak)) := by
                        have q := HSV.out _ (Below.refl _ _)
                        have hbD : b < D := hB4
                        exact ⟨k8, (pb8.cell (p := ⟨p, 1, none⟩) (by show p < D; omega)).trans q.2.1, (pb8.cell (p := ⟨b, off + k * 2, none⟩) hbD).trans q.2.2.1, (pb8.cell (p := ⟨b, off + k * 2 + 1, none⟩) hbD).trans q.2.2.2⟩
                      have HE8 : Aside (BAt w4 w3.heap.size D (.slice xa m xc) (.slice qa qn qc) C ((O ++ [(s, x)]) ++ [(nk, ak)]) (w8.setCell ⟨D, 1, none⟩ (.slice qa qn qc))) := P1
                      have HIn8 : Aside (M.insOk (s, x) H (k + 1) true ((O ++ [(s, x)]) ++ [(nk, ak)])) := by have := M.insOk_in HIn.out HKH.out HLe.out; rw [HNk.out] at this; exact this
                      clear P1 P2 o8 g8 pb7 pb8 hqn
                      refine hK.out _ _ hA8.out (fun hHeld => ?_)
                      clear hK K
                      refine till_go 9 (v := .pointer (some ⟨D, 1, none⟩)) rfl (by decide) (by kernel_rfl) (by kernel_rfl) (by kernel_rfl) (fun _ _ _ h => h) (Or.inl ⟨by rfl, fun V _ => (by go_simp)⟩) hHeld ?_
                      try simp only [Act.put]
                      refine till_last rfl (by kernel_rfl) (by kernel_rfl) (fun K hK => ?_) _
                      go_simp
                      refine hK.out _ _ ?_
                      clear hK K
                      clear hA8 HSV HBd
                      go_wp2
                      go_roundg (gk - 1)
                      case measure => omega
                      case rel => exact ⟨k + 1, true, _, _, by omega, by go_num, rfl, HE8, HIn8⟩
            · obtain rfl : k = n2 := by omega
              have hkk2 : decide ((k : Int) < (k : Int)) = false := by simp
              obtain ⟨za, zc, rfl, _⟩ := HOk.out.h.hs
              obtain ⟨zn, hzn⟩ : ∃ zn, zn = O.length := ⟨_, rfl⟩
              rw [← hzn] at HOk
              have hIe := HIn.out
              rw [← HNH.out] at hIe
              have HIe : Hid ((if dn = true then O else O ++ [(s, x)]) = M.insH (s, x) H) := M.insOk_end hIe
              have HOl : Hid (O.length ≤ 5) := by have := HIn.out.2; unfold Hid; split at this <;> omega
              clear hIe hzn J
              cases dn with
              | true =>
                have HEq : Hid (O = M.insH (s, x) H) := HIe.out
                have r9 : wr.heap[R]? = some (.cells #[.slice none 0 0, .slice none 0 0] 25 (0, 0)) := (HOk.out.bel.block R hRD).trans r4
                have hb9 : Below w.heap.size w wr := hb4.trans (HOk.out.bel.mono HWD.out)
                have e0' : wr.cell? ⟨D, 0, none⟩ = some (.slice xa m xc) := by rw [cell_of_row _ _ _ _ _ _ HOk.out.blk]; rfl
                have e1' : wr.cell? ⟨D, 1, none⟩ = some (.slice za zn zc) := by rw [cell_of_row _ _ _ _ _ _ HOk.out.blk]; rfl
                have HRO : Aside (RepoOwn ((wr.setCell ⟨R, 0, none⟩ (.slice xa m xc)).setCell ⟨R, 1, none⟩ (.slice za zn zc)) w.heap.size (.agg #[.slice xa m xc, .slice za zn zc]) (M.brC C H s t) (M.brH C H s t)) := by unfold Aside; rw [EC.out.1, EC.out.2, ← HEq.out]; exact (repoOwn_set r9 HOk.out.k (HOk.out.h.lower hD3)).lower h30.out
                obtain ⟨g1, g2, g3⟩ := res_set r9 (.slice xa m xc) (.slice za zn zc)
                obtain ⟨X, hX⟩ : ∃ X, X = (wr.setCell ⟨R, 0, none⟩ (.slice xa m xc)).setCell ⟨R, 1, none⟩ (.slice za zn zc) := ⟨_, rfl⟩
                rw [← hX] at g1 HRO
                have bX : Below w.heap.size w X := by rw [hX]; exact (hb9.setCell (p := ⟨R, 0, none⟩) (by show _ ≤ R; have := HPR.out; omega) _).setCell (p := ⟨R, 1, none⟩) (by show _ ≤ R; have := HPR.out; omega) _
                have HX9 : Hid (X = (wr.setCell ⟨R, 0, none⟩ (.slice xa m xc)).setCell ⟨R, 1, none⟩ (.slice za zn zc)) := hX
                have HX0 : Aside (X.cell? ⟨R, 0, none⟩ = some (.slice xa m xc)) := by unfold Aside; rw [cell_of_row _ _ _ _ _ _ g1]; rfl
                have HX1 : Aside (X.cell? ⟨R, 1, none⟩ = some (.slice za zn zc)) := by unfold Aside; rw [cell_of_row _ _ _ _ _ _ g1]; rfl
                have x0' : wr.cell? ⟨R, 0, none⟩ = some (.slice none 0 0) := by rw [cell_of_row _ _ _ _ _ _ r9]; rfl
                have x1' : wr.cell? ⟨R, 1, none⟩ = some (.slice none 0 0) := by rw [cell_of_row _ _ _ _ _ _ r9]; rfl
                have f0' : wr.frozen? ⟨R, 0, none⟩ = false := frozen_of_row _ _ _ _ _ r9
                have f1' : wr.frozen? ⟨R, 1, none⟩ = false := frozen_of_row _ _ _ _ _ r9
                clear g1 g2 g3 hX r9
                go_wp2
                rw [← HX9.out]
                have y0 := HX0.out
                have y1 := HX1.out
                refine bodyPost_ret (v := .tuple #[.agg #[.slice xa m xc, .slice za zn zc], .int .i64 0]) (by simp [results, Tryz.results12, go_sem, y0, y1]) rfl ?_
                exact ⟨_, ret_two' E0.out.symm, HRO.out, bX⟩
              | false =>
                have HEq : Hid (O ++ [(s, x)] = M.insH (s, x) H) := HIe.out
                have k1 : wr.cell? ⟨D, 1, none⟩ = some (.slice za zn zc) := by rw [cell_of_row _ _ _ _ _ _ HOk.out.blk]; rfl
                have HOA : Hid (OwnH (wr.alloc (.cells #[.string s, .int .i64 x] 66)) D (.slice za zn zc) O) := HOk.out.h.later ((Below.refl _ _).alloc (Nat.le_refl _) _)
                have HHN : Hid (Hs (wr.alloc (.cells #[.string s, .int .i64 x] 66)) (some ⟨wr.heap.size, 0, none⟩) 1 [(s, x)]) := head_new wr s x hss
                have hzn5 : O.length + 1 ≤ 1000000 := by have := HOl.out; omega
                have hDa : D ≤ (wr.alloc (.cells #[.string s, .int .i64 x] 66)).heap.size := by simp; omega
                go_wp2_with (at_builtin; refine wpl_heads rfl _ _ rfl D _ O rfl HOA.out (some ⟨wr.heap.size, 0, none⟩) 1 1 [(s, x)] rfl HHN.out (fun h => by simp at h) hzn5 hDa ?_)
                intro v7 w7 o7 g7
                obtain ⟨ra7, rc7, rfl, _⟩ := o7.hs
                obtain ⟨rn7, hrn7⟩ : ∃ rn, rn = (O ++ [(s, x)]).length := ⟨_, rfl⟩
                rw [← hrn7] at o7 ⊢
                obtain ⟨P1, P2⟩ := HOk.out.put (q := (s, x)) (y' := .slice ra7 rn7 rc7) _ o7 g7
                have k7 : w7.cell? ⟨D, 1, none⟩ = some (.slice za zn zc) := by rw [cell_of_row _ _ _ _ _ _ P2]; rfl
                have f7 : w7.frozen? ⟨D, 1, none⟩ = false := frozen_of_row _ _ _ _ _ P2
                obtain ⟨W8, hW8⟩ : ∃ W8, W8 = w7.setCell ⟨D, 1, none⟩ (.slice ra7 rn7 rc7) := ⟨_, rfl⟩
                rw [← hW8] at P1
                have HO8 : Aside (BAt w4 w3.heap.size D (.slice xa m xc) (.slice ra7 rn7 rc7) C (O ++ [(s, x)]) W8) := P1
                have HW8 : Hid (W8 = w7.setCell ⟨D, 1, none⟩ (.slice ra7 rn7 rc7)) := hW8
                clear P1 P2 o7 g7 hrn7 k1 HOA HHN d1
                have r9 : W8.heap[R]? = some (.cells #[.slice none 0 0, .slice none 0 0] 25 (0, 0)) := (HO8.out.bel.block R hRD).trans r4
                have hb9 : Below w.heap.size w W8 := hb4.trans (HO8.out.bel.mono HWD.out)
                have e0' : W8.cell? ⟨D, 0, none⟩ = some (.slice xa m xc) := by rw [cell_of_row _ _ _ _ _ _ HO8.out.blk]; rfl
                have e1' : W8.cell? ⟨D, 1, none⟩ = some (.slice ra7 rn7 rc7) := by rw [cell_of_row _ _ _ _ _ _ HO8.out.blk]; rfl
                have HRO : Aside (RepoOwn ((W8.setCell ⟨R, 0, none⟩ (.slice xa m xc)).setCell ⟨R, 1, none⟩ (.slice ra7 rn7 rc7)) w.heap.size (.agg #[.slice xa m xc, .slice ra7 rn7 rc7]) (M.brC C H s t) (M.brH C H s t)) := by unfold Aside; rw [EC.out.1, EC.out.2, ← HEq.out]; exact (repoOwn_set r9 HO8.out.k (HO8.out.h.lower hD3)).lower h30.out
                obtain ⟨g1, g2, g3⟩ := res_set r9 (.slice xa m xc) (.slice ra7 rn7 rc7)
                obtain ⟨X, hX⟩ : ∃ X, X = (W8.setCell ⟨R, 0, none⟩ (.slice xa m xc)).setCell ⟨R, 1, none⟩ (.slice ra7 rn7 rc7) := ⟨_, rfl⟩
                rw [← hX] at g1 HRO
                have bX : Below w.heap.size w X := by rw [hX]; exact (hb9.setCell (p := ⟨R, 0, none⟩) (by show _ ≤ R; have := HPR.out; omega) _).setCell (p := ⟨R, 1, none⟩) (by show _ ≤ R; have := HPR.out; omega) _
                have HX9 : Hid (X = (W8.setCell ⟨R, 0, none⟩ (.slice xa m xc)).setCell ⟨R, 1, none⟩ (.slice ra7 rn7 rc7)) := hX
                have HX0 : Aside (X.cell? ⟨R, 0, none⟩ = some (.slice xa m xc)) := by unfold Aside; rw [cell_of_row _ _ _ _ _ _ g1]; rfl
                have HX1 : Aside (X.cell? ⟨R, 1, none⟩ = some (.slice ra7 rn7 rc7)) := by unfold Aside; rw [cell_of_row _ _ _ _ _ _ g1]; rfl
                have x0' : W8.cell? ⟨R, 0, none⟩ = some (.slice none 0 0) := by rw [cell_of_row _ _ _ _ _ _ r9]; rfl
                have x1' : W8.cell? ⟨R, 1, none⟩ = some (.slice none 0 0) := by rw [cell_of_row _ _ _ _ _ _ r9]; rfl
                have f0' : W8.frozen? ⟨R, 0, none⟩ = false := frozen_of_row _ _ _ _ _ r9
                have f1' : W8.frozen? ⟨R, 1, none⟩ = false := frozen_of_row _ _ _ _ _ r9
                clear g1 g2 g3 hX r9
                rw [hW8] at e0' e1' x0' x1' f0' f1'
                clear hW8
                go_wp2
                rw [← HW8.out, ← HX9.out]
                have y0 := HX0.out
                have y1 := HX1.out
                refine bodyPost_ret (v := .tuple #[.agg #[.slice xa m xc, .slice ra7 rn7 rc7], .int .i64 0]) (by simp [results, Tryz.results12, go_sem, y0, y1]) rfl ?_
                exact ⟨_, ret_two' E0.out.symm, HRO.out, bX⟩
  · have hzb : (z != 0) = true := by simp [hz0]
    have EE : Aside (M.brE C H s t = z) := by unfold Aside M.brE; rw [← HZ.out, if_pos hz0]
    have EC : Aside (M.brC C H s t = [] ∧ M.brH C H s t = []) := ⟨by unfold M.brC; rw [if_neg (by rw [EE.out]; exact hz0)], by unfold M.brH; rw [if_neg (by rw [EE.out]; exact hz0)]⟩
    clear hz0 J1 d0 d1 c0 c1 KH
    obtain ⟨g1, g2, g3⟩ := res_set r1 (.slice none 0 0) (.slice none 0 0)
    obtain ⟨X, hX⟩ : ∃ X, X = (w1.setCell ⟨R, 0, none⟩ (.slice none 0 0)).setCell ⟨R, 1, none⟩ (.slice none 0 0) := ⟨_, rfl⟩
    rw [← hX] at g1
    have bX : Below w.heap.size w X := by rw [hX]; exact (hb1.setCell (p := ⟨R, 0, none⟩) (by show _ ≤ R; have := HPR.out; omega) _).setCell (p := ⟨R, 1, none⟩) (by show _ ≤ R; have := HPR.out; omega) _
    have gX := g1
    have HX9 : Hid (X = (w1.setCell ⟨R, 0, none⟩ (.slice none 0 0)).setCell ⟨R, 1, none⟩ (.slice none 0 0)) := hX
    have HX0 : Aside (X.cell? ⟨R, 0, none⟩ = some (.slice none 0 0)) := by unfold Aside; rw [cell_of_row _ _ _ _ _ _ gX]; rfl
    have HX1 : Aside (X.cell? ⟨R, 1, none⟩ = some (.slice none 0 0)) := by unfold Aside; rw [cell_of_row _ _ _ _ _ _ gX]; rfl
    have x0 : w1.cell? ⟨R, 0, none⟩ = some (.slice none 0 0) := by rw [cell_of_row _ _ _ _ _ _ r1]; rfl
    have x1 : w1.cell? ⟨R, 1, none⟩ = some (.slice none 0 0) := by rw [cell_of_row _ _ _ _ _ _ r1]; rfl
    have f0 : w1.frozen? ⟨R, 0, none⟩ = false := frozen_of_row _ _ _ _ _ r1
    have f1 : w1.frozen? ⟨R, 1, none⟩ = false := frozen_of_row _ _ _ _ _ r1
    clear g1 g2 g3 hX gX r1
    go_wp2
    rw [← HX9.out]
    have y0 := HX0.out
    have y1 := HX1.out
    refine bodyPost_ret (v := .tuple #[.agg #[.slice none 0 0, .slice none 0 0], .int .i64 z]) (by simp [results, Tryz.results12, go_sem, y0, y1]) rfl ?_
    refine ⟨_, ret_two' EE.out.symm, ?_, bX⟩
    rw [EC.out.1, EC.out.2]; exact RepoOwn.none _ _
end Go.Proofs.YtcgpgflnihjpiaeGreat

/- From an argument's reading to the rows that it holds. -/
namespace Go.Proofs.YtcgpgflnihjpiaeGreat
open Go.ChangeShapes Go.WideShapes Go.ChangeAt Go.RowKit Go.Deep

theorem ownTry : ownKnob Tryz.prog.godebug = none := by kernel_rfl
theorem laidTry : laidOutB Tryz.prog = true := by kernel_rfl

theorem open_rows {H : Type} {enc : TypeId × Value → H} {w : World} {base : Nat} {spare : Nat → Bool} {held : Bool} {fuel : Nat} {a : Option Addr} {len cap : Nat} {x : DataW H × List MemPlace}
    (h : DataW.trod enc Tryz.prog w base spare held fuel 50 [.slice a len cap] = some x) : ∃ l, Rd w a len l ∧ len ≤ cap ∧ cap ≤ maxLen ∧ (a = none → len = 0 ∧ cap = 0) := by
  rcases open_slice_pairs Tryz.underlying50 Tryz.underlying88 (by kernel_rfl) rfl rfl (by kernel_rfl) (by kernel_rfl) h with ⟨hcs, _⟩ | ⟨ad, len', cap', m, n, V0, V1, D0, D1, P0, P1, hcs, _, hl, hm, hmm, _, hc⟩
  · simp at hcs
    obtain ⟨rfl, rfl, rfl⟩ := hcs
    exact ⟨[], ⟨rfl, Or.inl rfl⟩, Nat.le_refl _, by simp [maxLen], fun _ => ⟨rfl, rfl⟩⟩
  · simp at hcs
    obtain ⟨rfl, rfl, rfl⟩ := hcs
    have hlm : len ≤ m := by rw [hmm]; split <;> omega
    have each : ∀ i, i < len → ∃ q : Int × Int, w.cell? (ad.add (i * 2)) = some (.int .i64 q.1) ∧ w.cell? (ad.add (i * 2 + 1)) = some (.int .i64 q.2) := by
      intro i hi
      obtain ⟨c0, c1, t0, t1⟩ := hc i (by omega)
      obtain ⟨x0, e0, _, _⟩ := DataW.trod_int (k := .i64) Tryz.underlying3 t0
      obtain ⟨x1, e1, _, _⟩ := DataW.trod_int (k := .i64) Tryz.underlying3 t1
      simp at e0 e1
      rw [e0] at c0
      rw [e1] at c1
      exact ⟨(x0, x1), c0, c1⟩
    obtain ⟨q, hq⟩ := choose_lt each
    refine ⟨(List.range len).map q, ⟨by simp, ?_⟩, hl, hm, fun h => by simp at h⟩
    by_cases h0 : len = 0
    · exact Or.inl h0
    · obtain ⟨b, off, spot⟩ := ad
      have hs : spot = none := by
        have h1 := (hq 0 (by omega)).1
        simpa [Addr.add] using World.cell?_spot h1
      subst hs
      refine Or.inr ⟨b, off, rfl, World.block_lt_of_cell? w _ (hq 0 (by omega)).1, fun i hi => ?_⟩
      have h1 := hq i hi
      rw [Addr.add_lit, Addr.add_lit, ← Nat.add_assoc] at h1
      have e : ((List.range len).map q).getD i (0, 0) = q i := by simp [List.getD, hi]
      rw [e]
      exact h1
end Go.Proofs.YtcgpgflnihjpiaeGreat

/- From an argument's reading to the commits that it holds. -/
namespace Go.Proofs.YtcgpgflnihjpiaeGreat
open Go.ChangeShapes Go.WideShapes Go.ChangeAt Go.RowKit Go.Deep

section
variable {H : Type} {enc : TypeId × Value → H} {w : World} {base : Nat} {spare : Nat → Bool} {held : Bool}

theorem open_rowsC {fuel : Nat} {cs : List Value} {x : DataW H × List MemPlace} (h : DataW.trod enc Tryz.prog w base spare held fuel 50 cs = some x) :
    ∃ a len cap l, cs = [.slice a len cap] ∧ Rd w a len l ∧ len ≤ 9223372036854775807 := by
  rcases open_slice_pairs Tryz.underlying50 Tryz.underlying88 (by kernel_rfl) rfl rfl (by kernel_rfl) (by kernel_rfl) h with ⟨rfl, rfl⟩ | ⟨ad, len, cap, m, n, V0, V1, D0, D1, P0, P1, rfl, _, hl, hm, hmm, rfl, hc⟩
  · obtain ⟨l, r1, r2⟩ := open_rows h
    exact ⟨none, 0, 0, l, rfl, r1, by omega⟩
  · obtain ⟨l, r1, r2⟩ := open_rows h
    exact ⟨some ad, len, cap, l, rfl, r1, by unfold maxLen at hm; omega⟩

theorem open_intsC {fuel : Nat} {cs : List Value} {x : DataW H × List MemPlace} (h : DataW.trod enc Tryz.prog w base spare held fuel 36 cs = some x) :
    ∃ a len cap l, cs = [.slice a len cap] ∧ Ri w a len l ∧ len ≤ 9223372036854775807 := by
  rcases open_slice1 Tryz.underlying36 (by kernel_rfl) h with ⟨rfl, rfl⟩ | ⟨ad, len, cap, m, n, V, D, Pl, rfl, _, hl, hm, hmm, rfl, hc⟩
  · exact ⟨none, 0, 0, [], rfl, ⟨rfl, Or.inl rfl⟩, by omega⟩
  · have hlm : len ≤ m := by rw [hmm]; split <;> omega
    have each : ∀ i, i < len → ∃ q : Int, w.cell? (ad.add i) = some (.int .i64 q) := by
      intro i hi
      obtain ⟨c0, t0⟩ := hc i (by omega)
      obtain ⟨x0, e0, _, _⟩ := DataW.trod_int (k := .i64) Tryz.underlying3 t0
      simp at e0
      rw [e0] at c0
      exact ⟨x0, c0⟩
    obtain ⟨q, hq⟩ := choose_lt each
    refine ⟨some ad, len, cap, (List.range len).map q, rfl, ⟨by simp, ?_⟩, by unfold maxLen at hm; omega⟩
    by_cases h0 : len = 0
    · exact Or.inl h0
    · obtain ⟨b, off, spot⟩ := ad
      have hs : spot = none := by
        have h1 := hq 0 (by omega)
        simpa [Addr.add] using World.cell?_spot h1
      subst hs
      refine Or.inr ⟨b, off, rfl, World.block_lt_of_cell? w _ (hq 0 (by omega)), fun i hi => ?_⟩
      have h1 := hq i hi
      rw [Addr.add_lit] at h1
      have e : ((List.range len).map q).getD i 0 = q i := by simp [List.getD, hi]
      rw [e]
      exact h1

theorem open_coms {fuel : Nat} {a : Option Addr} {len cap : Nat} {x : DataW H × List MemPlace} (h : DataW.trod enc Tryz.prog w base spare held fuel 22 [.slice a len cap] = some x) :
    ∃ L, Cm w a len L ∧ len ≤ cap ∧ cap ≤ maxLen := by
  rcases open_slice_pairs Tryz.underlying22 Tryz.underlying59 (by kernel_rfl) rfl rfl (by kernel_rfl) (by kernel_rfl) h with ⟨hcs, _⟩ | ⟨ad, len', cap', m, n, V0, V1, D0, D1, P0, P1, hcs, _, hl, hm, hmm, _, hc⟩
  · simp at hcs
    obtain ⟨rfl, rfl, rfl⟩ := hcs
    exact ⟨[], ⟨rfl, Or.inl rfl⟩, Nat.le_refl _, by simp [maxLen]⟩
  · simp at hcs
    obtain ⟨rfl, rfl, rfl⟩ := hcs
    have hlm : len ≤ m := by rw [hmm]; split <;> omega
    have each : ∀ i, i < len → ∃ q : ((Option Addr × Nat × Nat) × (Option Addr × Nat × Nat)) × M.Com, w.cell? (ad.add (i * 2)) = some (.slice q.1.1.1 q.1.1.2.1 q.1.1.2.2) ∧ w.cell? (ad.add (i * 2 + 1)) = some (.slice q.1.2.1 q.1.2.2.1 q.1.2.2.2) ∧ Rd w q.1.1.1 q.1.1.2.1 q.2.1 ∧ Ri w q.1.2.1 q.1.2.2.1 q.2.2 ∧ q.1.1.2.1 ≤ 9223372036854775807 ∧ q.1.2.2.1 ≤ 9223372036854775807 := by
      intro i hi
      obtain ⟨c0, c1, t0, t1⟩ := hc i (by omega)
      obtain ⟨a1, n1, k1, l1, e0, r1, m1⟩ := open_rowsC t0
      obtain ⟨a2, n2, k2, l2, e1, r2, m2⟩ := open_intsC t1
      simp at e0 e1
      rw [e0] at c0
      rw [e1] at c1
      exact ⟨(((a1, n1, k1), (a2, n2, k2)), (l1, l2)), c0, c1, r1, r2, m1, m2⟩
    obtain ⟨q, hq⟩ := choose_lt each
    refine ⟨(List.range len).map fun i => (q i).2, ⟨by simp, ?_⟩, hl, hm⟩
    by_cases h0 : len = 0
    · exact Or.inl h0
    · obtain ⟨b, off, spot⟩ := ad
      have hs : spot = none := by
        have h1 := (hq 0 (by omega)).1
        simpa [Addr.add] using World.cell?_spot h1
      subst hs
      refine Or.inr ⟨b, off, rfl, World.block_lt_of_cell? w _ (hq 0 (by omega)).1, fun i hi => ?_⟩
      have h1 := hq i hi
      rw [Addr.add_lit, Addr.add_lit, ← Nat.add_assoc] at h1
      have e : ((List.range len).map fun i => (q i).2).getD i ([], []) = (q i).2 := by simp [List.getD, hi]
      rw [e]
      exact ⟨_, _, _, _, _, _, h1⟩
end
end Go.Proofs.YtcgpgflnihjpiaeGreat

/- From an argument's reading to the repo that it holds. -/
namespace Go.Proofs.YtcgpgflnihjpiaeGreat
open Go.ChangeShapes Go.WideShapes Go.ChangeAt Go.RowKit Go.Deep

section
variable {H : Type} {enc : TypeId × Value → H} {w : World} {base : Nat} {spare : Nat → Bool} {held : Bool}

theorem open_comsC {fuel : Nat} {v : Value} {x : DataW H × List MemPlace} (h : DataW.trod enc Tryz.prog w base spare held fuel 22 [v] = some x) :
    ∃ a len cap L, v = .slice a len cap ∧ Cm w a len L ∧ len ≤ cap ∧ cap ≤ maxLen := by
  rcases open_slice_pairs Tryz.underlying22 Tryz.underlying59 (by kernel_rfl) rfl rfl (by kernel_rfl) (by kernel_rfl) h with ⟨hcs, _⟩ | ⟨ad, len', cap', m, n, V0, V1, D0, D1, P0, P1, hcs, _⟩
  · simp at hcs
    subst hcs
    obtain ⟨L, r⟩ := open_coms h
    exact ⟨none, 0, 0, L, rfl, r⟩
  · simp at hcs
    subst hcs
    obtain ⟨L, r⟩ := open_coms h
    exact ⟨some ad, len', cap', L, rfl, r⟩

theorem open_headsC {fuel : Nat} {v : Value} {x : DataW H × List MemPlace} (h : DataW.trod enc Tryz.prog w base spare held fuel 23 [v] = some x) :
    ∃ a len cap L, v = .slice a len cap ∧ Hs w a len L ∧ len ≤ cap ∧ cap ≤ maxLen ∧ (a = none → len = 0 ∧ cap = 0) := by
  rcases open_slice_pairs Tryz.underlying23 Tryz.underlying66 (by kernel_rfl) rfl rfl (by kernel_rfl) (by kernel_rfl) h with ⟨hcs, _⟩ | ⟨ad, len, cap, m, n, V0, V1, D0, D1, P0, P1, hcs, _, hl, hm, hmm, _, hc⟩
  · simp at hcs
    subst hcs
    exact ⟨none, 0, 0, [], rfl, ⟨rfl, Or.inl rfl⟩, Nat.le_refl _, by simp [maxLen], fun _ => ⟨rfl, rfl⟩⟩
  · simp at hcs
    subst hcs
    have hlm : len ≤ m := by rw [hmm]; split <;> omega
    have each : ∀ i, i < len → ∃ q : M.Hd, w.cell? (ad.add (i * 2)) = some (.string q.1) ∧ w.cell? (ad.add (i * 2 + 1)) = some (.int .i64 q.2) ∧ q.1.size ≤ 9223372036854775807 := by
      intro i hi
      obtain ⟨c0, c1, t0, t1⟩ := hc i (by omega)
      obtain ⟨s0, e0, _, z0⟩ := DataW.trod_string Tryz.underlying9 t0
      obtain ⟨x1, e1, _, _⟩ := DataW.trod_int (k := .i64) Tryz.underlying3 t1
      simp at e0 e1
      rw [e0] at c0
      rw [e1] at c1
      exact ⟨(s0, x1), c0, c1, by unfold maxLen at z0; exact z0⟩
    obtain ⟨q, hq⟩ := choose_lt each
    refine ⟨some ad, len, cap, (List.range len).map q, rfl, ⟨by simp, ?_⟩, hl, hm, fun h => by simp at h⟩
    by_cases h0 : len = 0
    · exact Or.inl h0
    · obtain ⟨b, off, spot⟩ := ad
      have hs : spot = none := by
        have h1 := (hq 0 (by omega)).1
        simpa [Addr.add] using World.cell?_spot h1
      subst hs
      refine Or.inr ⟨b, off, rfl, World.block_lt_of_cell? w _ (hq 0 (by omega)).1, fun i hi => ?_⟩
      have h1 := hq i hi
      rw [Addr.add_lit, Addr.add_lit, ← Nat.add_assoc] at h1
      have e : ((List.range len).map q).getD i M.hd0 = q i := by simp [List.getD, hi]
      rw [e]
      exact h1

set_option maxRecDepth 100000 in
theorem open_repo {r : Reach} {b0 : Nat} {v : Value} {d : DataW H} {p : List MemPlace} (hv : Value.okWide Tryz.prog w r b0 25 v) (h : DataW.Trod enc Tryz.prog w base spare held 25 v d p) :
    ∃ a n cap a2 n2 cap2 C L, v = .agg #[.slice a n cap, .slice a2 n2 cap2] ∧ Cm w a n C ∧ n ≤ 9223372036854775807 ∧ Hs w a2 n2 L ∧ n2 ≤ 9223372036854775807 := by
  obtain ⟨v0, v1, y0, y1, m, rfl, _, _, h0, h1⟩ := Joins.open_agg2 Tryz.underlying25 (by kernel_rfl) (by kernel_rfl) hv h
  obtain ⟨a, n, cap, C, rfl, c1, c2, c3⟩ := open_comsC h0
  obtain ⟨a2, n2, cap2, L, rfl, l1, l2, l3, _⟩ := open_headsC h1
  exact ⟨a, n, cap, a2, n2, cap2, C, L, rfl, c1, by unfold maxLen at c3; omega, l1, by unfold maxLen at l3; omega⟩
end
end Go.Proofs.YtcgpgflnihjpiaeGreat

/- From an argument's reading to the repo that it holds, its nil slices too. -/
namespace Go.Proofs.YtcgpgflnihjpiaeGreat
open Go.ChangeShapes Go.WideShapes Go.ChangeAt Go.RowKit Go.Deep

section
variable {H : Type} {enc : TypeId × Value → H} {w : World} {base : Nat} {spare : Nat → Bool} {held : Bool}

theorem open_rowsN {fuel : Nat} {cs : List Value} {x : DataW H × List MemPlace} (h : DataW.trod enc Tryz.prog w base spare held fuel 50 cs = some x) :
    ∃ a len cap, cs = [.slice a len cap] ∧ (a = none → len = 0 ∧ cap = 0) := by
  rcases open_slice_pairs Tryz.underlying50 Tryz.underlying88 (by kernel_rfl) rfl rfl (by kernel_rfl) (by kernel_rfl) h with ⟨rfl, rfl⟩ | ⟨ad, len, cap, m, n, V0, V1, D0, D1, P0, P1, rfl, _⟩
  · exact ⟨none, 0, 0, rfl, fun _ => ⟨rfl, rfl⟩⟩
  · exact ⟨some ad, len, cap, rfl, fun h => by simp at h⟩
theorem open_intsN {fuel : Nat} {cs : List Value} {x : DataW H × List MemPlace} (h : DataW.trod enc Tryz.prog w base spare held fuel 36 cs = some x) :
    ∃ a len cap, cs = [.slice a len cap] ∧ (a = none → len = 0 ∧ cap = 0) := by
  rcases open_slice1 Tryz.underlying36 (by kernel_rfl) h with ⟨rfl, rfl⟩ | ⟨ad, len, cap, m, n, V, D, Pl, rfl, _⟩
  · exact ⟨none, 0, 0, rfl, fun _ => ⟨rfl, rfl⟩⟩
  · exact ⟨some ad, len, cap, rfl, fun h => by simp at h⟩
theorem open_cn {fuel : Nat} {a : Option Addr} {len cap : Nat} {x : DataW H × List MemPlace} (h : DataW.trod enc Tryz.prog w base spare held fuel 22 [.slice a len cap] = some x) : Cn w a len := by
  rcases open_slice_pairs Tryz.underlying22 Tryz.underlying59 (by kernel_rfl) rfl rfl (by kernel_rfl) (by kernel_rfl) h with ⟨hcs, _⟩ | ⟨ad, len', cap', m, n, V0, V1, D0, D1, P0, P1, hcs, _, hl, hm, hmm, _, hc⟩
  · simp at hcs
    obtain ⟨rfl, rfl, rfl⟩ := hcs
    intro b off e
    simp at e
  · simp at hcs
    obtain ⟨rfl, rfl, rfl⟩ := hcs
    have hlm : len ≤ m := by rw [hmm]; split <;> omega
    intro b off e i hi y k c hor hy
    obtain rfl : ad = ⟨b, off, none⟩ := by simpa using e
    obtain ⟨c0, c1, t0, t1⟩ := hc i (by omega)
    obtain ⟨a1, n1, k1, e0, z0⟩ := open_rowsN t0
    obtain ⟨a2, n2, k2, e1, z1⟩ := open_intsN t1
    simp at e0 e1
    rw [e0, Addr.add_lit] at c0
    rw [e1, Addr.add_lit, ← Nat.add_assoc] at c1
    rcases hor with hcc | hcc
    · rw [hcc] at c0
      simp at c0
      obtain ⟨rfl, rfl, rfl⟩ := c0
      exact z0 hy
    · rw [hcc] at c1
      simp at c1
      obtain ⟨rfl, rfl, rfl⟩ := c1
      exact z1 hy
set_option maxRecDepth 100000 in
theorem open_repoV {r : Reach} {b0 : Nat} {v : Value} {d : DataW H} {p : List MemPlace} (hv : Value.okWide Tryz.prog w r b0 25 v) (h : DataW.Trod enc Tryz.prog w base spare held 25 v d p) :
    ∃ a n cap a2 n2 cap2 C L, v = .agg #[.slice a n cap, .slice a2 n2 cap2] ∧ RepoV w a n cap C a2 n2 cap2 L ∧ n2 ≤ cap2 ∧ cap2 ≤ maxLen := by
  obtain ⟨v0, v1, y0, y1, m, rfl, _, _, h0, h1⟩ := Joins.open_agg2 Tryz.underlying25 (by kernel_rfl) (by kernel_rfl) hv h
  obtain ⟨a, n, cap, C, rfl, c1, c2, c3⟩ := open_comsC h0
  obtain ⟨a2, n2, cap2, L, rfl, l1, l2, l3, l4⟩ := open_headsC h1
  exact ⟨a, n, cap, a2, n2, cap2, C, L, rfl, ⟨c1, open_cn h0, by unfold maxLen at c3; omega, l1, by unfold maxLen at l3; omega, l4⟩, l2, l3⟩
end
end Go.Proofs.YtcgpgflnihjpiaeGreat

/- For every repo and every two names, the law WorkHeads returns true and leaves its arguments as they were: work.Branch and work.Drop answer what the reference answers. No condition. -/
namespace Go.Proofs.YtcgpgflnihjpiaeGreat
open Go.ChangeShapes Go.WideShapes Go.ChangeAt Go.RowKit

set_option maxRecDepth 100000 in
set_option maxHeartbeats 16000000 in
theorem workHeads_walk (a : Option Addr) (n cap : Nat) (C : List M.Com) (a2 : Option Addr) (n2 cap2 : Nat) (H : List M.Hd) (s t : ByteArray) (w : World) (hV : RepoV w a n cap C a2 n2 cap2 H) (hc2 : n2 ≤ cap2) (hcm : cap2 ≤ maxLen) (hss : s.size ≤ 9223372036854775807) :
    Calls Tryz.prog 4 #[.agg #[.slice a n cap, .slice a2 n2 cap2], .string s, .string t] w fun e w' => e = .returned (.bool true) ∧ Below w.heap.size w w' := by
  obtain ⟨p, hp⟩ : ∃ p, p = w.heap.size := ⟨_, rfl⟩
  obtain ⟨W, hW⟩ : ∃ W, W = w.alloc (.cells #[.slice a n cap, .slice a2 n2 cap2] 25) := ⟨_, rfl⟩
  have hb : Below w.heap.size w W := by rw [hW]; exact (Below.refl _ _).alloc (Nat.le_refl _) _
  have HB : Hid (KBox W p a n cap C a2 n2 cap2 H) := by rw [hW, hp]; exact KBox.new hV
  have HW : Hid (W = w.alloc (.cells #[.slice a n cap, .slice a2 n2 cap2] 25)) := hW
  have HP : Aside (p = w.heap.size) := hp
  obtain ⟨E, hE⟩ : ∃ E, E = M.brE C H s t := ⟨_, rfl⟩
  obtain ⟨F, hF⟩ : ∃ F, F = M.dropE C H s := ⟨_, rfl⟩
  have F1 : Hid (∀ V, Below W.heap.size W V → Calls Tryz.prog 10 #[.agg #[.slice a n cap, .slice a2 n2 cap2], .string s, .string t] V fun e w' => ∃ v, e = .returned (.tuple #[v, .int .i64 E]) ∧ RepoOwn w' V.heap.size v (M.brC C H s t) (M.brH C H s t) ∧ Below V.heap.size V w') := fun V hB => by rw [hE]; exact wbranch_any a n cap C a2 n2 cap2 H s t V (HB.out.v.later hB) hss
  have F2 : Hid (∀ V, Below W.heap.size W V → Calls Tryz.prog 11 #[.agg #[.slice a n cap, .slice a2 n2 cap2], .string s] V fun e w' => ∃ v, e = .returned (.tuple #[v, .int .i64 F]) ∧ RepoOwn w' V.heap.size v (M.dropC C H s) (M.dropH C H s) ∧ Below V.heap.size V w') := fun V hB => by rw [hF]; exact wdrop_any a n cap C a2 n2 cap2 H s V (HB.out.v.later hB)
  have F3 : Hid (∀ V, Below W.heap.size W V → Calls Tryz.prog 12 #[.agg #[.slice a n cap, .slice a2 n2 cap2], .string s, .string t] V fun e w' => ∃ v, e = .returned (.tuple #[v, .int .i64 E]) ∧ RepoOwn w' V.heap.size v (M.brC C H s t) (M.brH C H s t) ∧ Below V.heap.size V w') := fun V hB => by rw [hE]; exact branchOf_any a n cap C a2 n2 cap2 H s t V (HB.out.v.later hB) hss
  have F4 : Hid (∀ V, Below W.heap.size W V → Calls Tryz.prog 13 #[.agg #[.slice a n cap, .slice a2 n2 cap2], .string s] V fun e w' => ∃ v, e = .returned (.tuple #[v, .int .i64 F]) ∧ RepoOwn w' V.heap.size v (M.dropC C H s) (M.dropH C H s) ∧ Below V.heap.size V w') := fun V hB => by rw [hF]; exact dropOf_any a n cap C a2 n2 cap2 H s V (HB.out.v.later hB) hc2 hcm
  have b0 : Below W.heap.size W W := Below.refl _ _
  have c0 := HB.out.c0
  have c1 := HB.out.c1
  clear hW hp hV hE hF hc2 hcm hss
  go_enter Tryz.func4, Tryz.ntmps4
  go_wp2_with fail
  rw [← HW.out, ← HP.out]
  refine (F1.out _ b0).mono ?_
  rintro e v1 ⟨r1, rfl, o1, bb1⟩
  obtain ⟨xa1, xc1, ya1, yc1, rfl, V1⟩ := o1.v
  obtain ⟨ln1, hln1⟩ : ∃ ln, ln = (M.brC C H s t).length := ⟨_, rfl⟩
  obtain ⟨lh1, hlh1⟩ : ∃ lh, lh = (M.brH C H s t).length := ⟨_, rfl⟩
  rw [← hln1, ← hlh1] at V1 ⊢
  obtain ⟨X1, hX1⟩ : ∃ X, X = v1.alloc (.cells #[.slice xa1 ln1 xc1, .slice ya1 lh1 yc1] 25) := ⟨_, rfl⟩
  obtain ⟨p1, hp1⟩ : ∃ p, p = v1.heap.size := ⟨_, rfl⟩
  have bX1 : Below v1.heap.size v1 X1 := by rw [hX1]; exact (Below.refl _ _).alloc (Nat.le_refl _) _
  have HB1 : Hid (KBox X1 p1 xa1 ln1 xc1 (M.brC C H s t) ya1 lh1 yc1 (M.brH C H s t)) := by rw [hX1, hp1]; exact KBox.new V1
  have HX1 : Hid (X1 = v1.alloc (.cells #[.slice xa1 ln1 xc1, .slice ya1 lh1 yc1] 25)) := hX1
  have HP1 : Aside (p1 = v1.heap.size) := hp1
  have q1 : Below W.heap.size W X1 := dbelow2 bb1 bX1
  have b1 : Below W.heap.size W X1 := dbelow2 b0 q1
  have dq0 := (HB.out.later b1).c0
  have dq1 := (HB.out.later b1).c1
  rw [hX1] at dq0 dq1
  have HLn1 : Aside (ln1 = (M.brC C H s t).length) := hln1
  have HLh1 : Aside (lh1 = (M.brH C H s t).length) := hlh1
  clear hln1 hlh1
  clear c0 c1 o1 V1 hX1 hp1 bX1 bb1 q1
  have c0 := dq0
  have c1 := dq1
  clear dq0 dq1
  go_wp2_with fail
  rw [← HX1.out, ← HP1.out]
  clear c0 c1
  have c0 := (HB.out.later b1).c0
  have c1 := (HB.out.later b1).c1
  refine (F2.out _ b1).mono ?_
  rintro e v2 ⟨r2, rfl, o2, bb2⟩
  obtain ⟨xa2, xc2, ya2, yc2, rfl, V2⟩ := o2.v
  obtain ⟨ln2, hln2⟩ : ∃ ln, ln = (M.dropC C H s).length := ⟨_, rfl⟩
  obtain ⟨lh2, hlh2⟩ : ∃ lh, lh = (M.dropH C H s).length := ⟨_, rfl⟩
  rw [← hln2, ← hlh2] at V2 ⊢
  obtain ⟨X2, hX2⟩ : ∃ X, X = v2.alloc (.cells #[.slice xa2 ln2 xc2, .slice ya2 lh2 yc2] 25) := ⟨_, rfl⟩
  obtain ⟨p2, hp2⟩ : ∃ p, p = v2.heap.size := ⟨_, rfl⟩
  have bX2 : Below v2.heap.size v2 X2 := by rw [hX2]; exact (Below.refl _ _).alloc (Nat.le_refl _) _
  have HB2 : Hid (KBox X2 p2 xa2 ln2 xc2 (M.dropC C H s) ya2 lh2 yc2 (M.dropH C H s)) := by rw [hX2, hp2]; exact KBox.new V2
  have HX2 : Hid (X2 = v2.alloc (.cells #[.slice xa2 ln2 xc2, .slice ya2 lh2 yc2] 25)) := hX2
  have HP2 : Aside (p2 = v2.heap.size) := hp2
  have q2 : Below X1.heap.size X1 X2 := dbelow2 bb2 bX2
  have b2 : Below W.heap.size W X2 := dbelow2 b1 q2
  have HB1 := HB1.out.later q2
  have HB1 : Hid (KBox X2 p1 _ _ _ _ _ _ _ _) := HB1
  have dq0 := (HB.out.later b2).c0
  have dq1 := (HB.out.later b2).c1
  rw [hX2] at dq0 dq1
  have HLn2 : Aside (ln2 = (M.dropC C H s).length) := hln2
  have HLh2 : Aside (lh2 = (M.dropH C H s).length) := hlh2
  clear hln2 hlh2
  clear c0 c1 o2 V2 hX2 hp2 bX2 bb2 q2
  have c0 := dq0
  have c1 := dq1
  clear dq0 dq1
  go_wp2_with fail
  rw [← HX2.out, ← HP2.out]
  clear c0 c1
  have c0 := (HB.out.later b2).c0
  have c1 := (HB.out.later b2).c1
  refine (F3.out _ b2).mono ?_
  rintro e v3 ⟨r3, rfl, o3, bb3⟩
  obtain ⟨xa3, xc3, ya3, yc3, rfl, V3⟩ := o3.v
  obtain ⟨ln3, hln3⟩ : ∃ ln, ln = (M.brC C H s t).length := ⟨_, rfl⟩
  obtain ⟨lh3, hlh3⟩ : ∃ lh, lh = (M.brH C H s t).length := ⟨_, rfl⟩
  rw [← hln3, ← hlh3] at V3 ⊢
  obtain ⟨X3, hX3⟩ : ∃ X, X = v3.alloc (.cells #[.slice xa3 ln3 xc3, .slice ya3 lh3 yc3] 25) := ⟨_, rfl⟩
  obtain ⟨p3, hp3⟩ : ∃ p, p = v3.heap.size := ⟨_, rfl⟩
  have bX3 : Below v3.heap.size v3 X3 := by rw [hX3]; exact (Below.refl _ _).alloc (Nat.le_refl _) _
  have HB3 : Hid (KBox X3 p3 xa3 ln3 xc3 (M.brC C H s t) ya3 lh3 yc3 (M.brH C H s t)) := by rw [hX3, hp3]; exact KBox.new V3
  have HX3 : Hid (X3 = v3.alloc (.cells #[.slice xa3 ln3 xc3, .slice ya3 lh3 yc3] 25)) := hX3
  have HP3 : Aside (p3 = v3.heap.size) := hp3
  have q3 : Below X2.heap.size X2 X3 := dbelow2 bb3 bX3
  have b3 : Below W.heap.size W X3 := dbelow2 b2 q3
  have HB1 := HB1.out.later q3
  have HB1 : Hid (KBox X3 p1 _ _ _ _ _ _ _ _) := HB1
  have HB2 := HB2.out.later q3
  have HB2 : Hid (KBox X3 p2 _ _ _ _ _ _ _ _) := HB2
  have dq0 := (HB.out.later b3).c0
  have dq1 := (HB.out.later b3).c1
  rw [hX3] at dq0 dq1
  have HLn3 : Aside (ln3 = (M.brC C H s t).length) := hln3
  have HLh3 : Aside (lh3 = (M.brH C H s t).length) := hlh3
  clear hln3 hlh3
  clear c0 c1 o3 V3 hX3 hp3 bX3 bb3 q3
  have c0 := dq0
  have c1 := dq1
  clear dq0 dq1
  go_wp2_with fail
  rw [← HX3.out, ← HP3.out]
  clear c0 c1
  have c0 := (HB.out.later b3).c0
  have c1 := (HB.out.later b3).c1
  refine (F4.out _ b3).mono ?_
  rintro e v4 ⟨r4, rfl, o4, bb4⟩
  obtain ⟨xa4, xc4, ya4, yc4, rfl, V4⟩ := o4.v
  obtain ⟨ln4, hln4⟩ : ∃ ln, ln = (M.dropC C H s).length := ⟨_, rfl⟩
  obtain ⟨lh4, hlh4⟩ : ∃ lh, lh = (M.dropH C H s).length := ⟨_, rfl⟩
  rw [← hln4, ← hlh4] at V4 ⊢
  obtain ⟨X4, hX4⟩ : ∃ X, X = v4.alloc (.cells #[.slice xa4 ln4 xc4, .slice ya4 lh4 yc4] 25) := ⟨_, rfl⟩
  obtain ⟨p4, hp4⟩ : ∃ p, p = v4.heap.size := ⟨_, rfl⟩
  have bX4 : Below v4.heap.size v4 X4 := by rw [hX4]; exact (Below.refl _ _).alloc (Nat.le_refl _) _
  have HB4 : Hid (KBox X4 p4 xa4 ln4 xc4 (M.dropC C H s) ya4 lh4 yc4 (M.dropH C H s)) := by rw [hX4, hp4]; exact KBox.new V4
  have HX4 : Hid (X4 = v4.alloc (.cells #[.slice xa4 ln4 xc4, .slice ya4 lh4 yc4] 25)) := hX4
  have HP4 : Aside (p4 = v4.heap.size) := hp4
  have q4 : Below X3.heap.size X3 X4 := dbelow2 bb4 bX4
  have b4 : Below W.heap.size W X4 := dbelow2 b3 q4
  have HB1 := HB1.out.later q4
  have HB1 : Hid (KBox X4 p1 _ _ _ _ _ _ _ _) := HB1
  have HB2 := HB2.out.later q4
  have HB2 : Hid (KBox X4 p2 _ _ _ _ _ _ _ _) := HB2
  have HB3 := HB3.out.later q4
  have HB3 : Hid (KBox X4 p3 _ _ _ _ _ _ _ _) := HB3
  have dq0 := (HB.out.later b4).c0
  have dq1 := (HB.out.later b4).c1
  rw [hX4] at dq0 dq1
  have HLn4 : Aside (ln4 = (M.dropC C H s).length) := hln4
  have HLh4 : Aside (lh4 = (M.dropH C H s).length) := hlh4
  clear hln4 hlh4
  clear c0 c1 o4 V4 hX4 hp4 bX4 bb4 q4
  have c0 := dq0
  have c1 := dq1
  clear dq0 dq1
  go_wp2_with fail
  rw [← HX4.out, ← HP4.out]
  clear c0 c1
  have c0 := (HB.out.later b4).c0
  have c1 := (HB.out.later b4).c1
  obtain rfl : ln1 = ln3 := HLn1.out.trans HLn3.out.symm
  obtain rfl : lh1 = lh3 := HLh1.out.trans HLh3.out.symm
  obtain rfl : ln2 = ln4 := HLn2.out.trans HLn4.out.symm
  obtain rfl : lh2 = lh4 := HLh2.out.trans HLh4.out.symm
  refine (wbegun_any _).mono ?_
  rintro e Y1 ⟨rfl, y1⟩
  have z1 := HB1.out.later y1
  have z2 := HB2.out.later y1
  have z3 := HB3.out.later y1
  have z4 := HB4.out.later y1
  have g0 := z1.c0
  have g1 := z1.c1
  have h0 := z3.c0
  have h1 := z3.c1
  have KS : Hid (Calls Tryz.prog 9 #[.agg #[.slice xa1 ln1 xc1, .slice ya1 lh1 yc1], .agg #[.slice xa3 ln1 xc3, .slice ya3 lh1 yc3]] Y1 fun e w' => e = .returned (.bool true) ∧ Below Y1.heap.size Y1 w') := srepos_yes xa1 xa3 ln1 xc1 xc3 _ ya1 ya3 lh1 yc1 yc3 _ Y1 z1.v.cm z3.v.cm z1.v.nm z1.v.hs z3.v.hs z1.v.hm
  have HZ2 : Hid (KBox Y1 p2 _ _ _ _ _ _ _ _) := z2
  have HZ4 : Hid (KBox Y1 p4 _ _ _ _ _ _ _ _) := z4
  have bY := dbelow2 b4 y1
  clear z1 z2 z3 z4 c0 c1 y1
  go_wp2_with fail
  refine KS.out.mono ?_
  rintro e Y2 ⟨rfl, y2⟩
  have bY2 := dbelow2 bY y2
  have u2 := HZ2.out.later y2
  have u4 := HZ4.out.later y2
  clear g0 g1 h0 h1 KS
  have g0 := u2.c0
  have g1 := u2.c1
  have h0 := u4.c0
  have h1 := u4.c1
  have KT : Hid (Calls Tryz.prog 9 #[.agg #[.slice xa2 ln2 xc2, .slice ya2 lh2 yc2], .agg #[.slice xa4 ln2 xc4, .slice ya4 lh2 yc4]] Y2 fun e w' => e = .returned (.bool true) ∧ Below Y2.heap.size Y2 w') := srepos_yes xa2 xa4 ln2 xc2 xc4 _ ya2 ya4 lh2 yc2 yc4 _ Y2 u2.v.cm u4.v.cm u2.v.nm u2.v.hs u4.v.hs u2.v.hm
  clear u2 u4 y2 bY
  go_wp2_with fail
  refine KT.out.mono ?_
  rintro e Y3 ⟨rfl, y3⟩
  have bZ : Below w.heap.size w Y3 := hb.trans ((dbelow2 bY2 y3).mono hb.size)
  clear g0 g1 h0 h1 KT y3
  go_wp2
  go_ret
  exact ⟨rfl, bZ⟩
set_option maxRecDepth 100000 in
theorem workHeads_lifted (os : Os) (started : os.Started) (H : Type) (enc : TypeId × Value → H) :
    ReturnsInHanded {} Tryz.checked os 4 .any (Rows.workHeadsSpec.pre6 enc Tryz.prog Tryz.f4 Rows.workHeadsRow.domain false) (Rows.workHeadsSpec.post enc Tryz.prog Tryz.f4 false true false false) := by
  refine returnsInHanded_of_change (C := Tryz.checked) ownTry started (by kernel_rfl) Tryz.func4
    (ChangeSpec.witness6 (enc := enc) (C := Tryz.checked) false ⟨#[], #[.agg #[.slice none 0 0, .slice none 0 0], .string ⟨#[]⟩, .string ⟨#[]⟩], []⟩ 8 (by kernel_rfl) (by kernel_rfl) (by kernel_rfl) (by kernel_rfl)) ?_
  intro W base args ds gs before hval0 hW hcnd _
  have hval : ∀ (j : Nat) t v, Tryz.f4.params[j]? = some t → args[j]? = some v → Value.okWide Tryz.prog W .any base t v := hval0
  have hW' := hW
  obtain ⟨p, q, hA0, hV, rfl, hfz, hnd⟩ := hW
  have hA : DataW.TrodAll enc Tryz.prog W 0 (fun _ => true) true Tryz.f4.params.toList args.toList ds p := hA0
  rw [Tryz.params4] at hA hval
  obtain ⟨v0, vs0, d0, ds0, p0, q0, hargs, rfl, rfl, h0, r0⟩ := trodAll_cons hA
  obtain ⟨v1, vs1, d1, ds1, p1, q1, rfl, rfl, rfl, h1, r1⟩ := trodAll_cons r0
  obtain ⟨v2, vs2, d2, ds2, p2, q2, rfl, rfl, rfl, h2, r2⟩ := trodAll_cons r1
  obtain ⟨rfl, rfl, rfl⟩ := trodAll_nil r2
  obtain rfl : args = #[v0, v1, v2] := by cases args; simp_all
  obtain ⟨rfl, rfl⟩ := trodVars_none hV
  have k0 := h0
  have lt0 : ∀ x ∈ p0, x.block < W.heap.size := by obtain ⟨m, hm⟩ := k0; exact DataW.trod_lt m _ _ _ hm
  obtain ⟨a0, n0, cap0, b0, m0, bap0, C0, L0, rfl, hv0, hcp0, hcm0⟩ := open_repoV (hval 0 25 v0 rfl rfl) h0
  obtain ⟨s1, rfl, rfl, rfl, hs1⟩ := Go.ChangeMaps.open_string Tryz.underlying9 (hval 1 9 v1 rfl rfl) h1
  obtain ⟨s2, rfl, rfl, rfl, hs2⟩ := Go.ChangeMaps.open_string Tryz.underlying9 (hval 2 9 v2 rfl rfl) h2
  clear hA0 hval0
  refine (workHeads_walk a0 n0 cap0 C0 b0 m0 bap0 L0 s1 s2 W hv0 hcp0 hcm0 (by unfold maxLen at hs1; omega)).mono fun e W' ⟨he, bel⟩ => ?_
  subst he
  exact ⟨_, rfl, _, _, _, [], _, [], hW', trodAll_mk1 (shut_bool Tryz.underlying4 _), (trodAll_cons_mk (Below.trod laidTry (by kernel_rfl) (of_decide_eq_true (by kernel_rfl)) k0 bel lt0) (trodAll_cons_mk (Go.ChangeMaps.shut_string Tryz.underlying9 hs1) (trodAll_cons_mk (Go.ChangeMaps.shut_string Tryz.underlying9 hs2) trodAll_mk0))), rfl, bel.frame _, fun h => by cases h⟩

theorem workHeads_holds : Rows.WorkHeadsSaid :=
  OpenClaim.holds_of_wide 4 Tryz.f4 rfl rfl rfl rfl rfl rfl rfl ⟨rfl, rfl, rfl, rfl, rfl⟩ rfl rfl rfl rfl rfl (by kernel_rfl) Tryz.func4 (by kernel_rfl)
    (of_decide_eq_true (by kernel_rfl)) (by unfold Func.isWrapper; first | (rw [if_pos (by decide +kernel)]; kernel_rfl) | (rw [if_neg (by decide +kernel)]; exact ⟨rfl, rfl⟩))
    (fun os started H enc _ => workHeads_lifted os started H enc)
#print axioms workHeads_holds
end Go.Proofs.YtcgpgflnihjpiaeGreat
