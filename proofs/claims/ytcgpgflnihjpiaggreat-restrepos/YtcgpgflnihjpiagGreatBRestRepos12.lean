/- RDrop. -/
import Derived.Test.YtcgpgflnihjpiagGreatBRestRepos10
import Derived.Test.YtcgpgflnihjpiagGreatBRestRepos11
import Derived.Test.YtcgpgflnihjpiagGreatBRestRepos09
namespace Go.Proofs.YtcgpgflnihjpiagGreat
open Go.RowKit Go.Shelf Go.Maps
theorem Hs.take {w : World} {a : Option Addr} {n : Nat} {H : List M.Hd} (h : Hs w a n H) (k : Nat) (hk : k ≤ n) : Hs w a k (H.take k) := by
  obtain ⟨h1, h2⟩ := h
  refine ⟨by rw [List.length_take]; omega, ?_⟩
  rcases h2 with h2 | ⟨b, off, ha, hlt, hc⟩
  · exact Or.inl (by omega)
  · refine Or.inr ⟨b, off, ha, hlt, fun i hi => ?_⟩
    have e : (H.take k).getD i M.hd0 = H.getD i M.hd0 := by simp [List.getD, hi]
    rw [e]; exact hc i (by omega)
theorem Hs.drop {w : World} {b off n : Nat} {H : List M.Hd} (h : Hs w (some ⟨b, off, none⟩) n H) (k : Nat) : Hs w (some ⟨b, off + k * 2, none⟩) (n - k) (H.drop k) := by
  obtain ⟨h1, h2⟩ := h
  refine ⟨by rw [List.length_drop]; omega, ?_⟩
  rcases h2 with h2 | ⟨b', off', ha, hlt, hc⟩
  · exact Or.inl (by omega)
  · cases ha
    refine Or.inr ⟨b, off + k * 2, rfl, hlt, fun i hi => ?_⟩
    have e : (H.drop k).getD i M.hd0 = H.getD (k + i) M.hd0 := by simp [List.getD]
    rw [e, show off + k * 2 + i * 2 = off + (k + i) * 2 by omega]; exact hc (k + i) (by omega)
theorem boxed_heads {w : World} {B D : Nat} {x y y' : Value} {C : List M.Com} {H' : List M.Hd} (h1 : w.heap[D]? = some (.cells #[x, y] 35 (0, 0))) (h3 : OwnK w B x C) (h4 : OwnH w B y' H') :
    (w.setCell ⟨D, 1, none⟩ y').heap[D]? = some (.cells #[x, y'] 35 (0, 0)) ∧ OwnK (w.setCell ⟨D, 1, none⟩ y') B x C ∧ OwnH (w.setCell ⟨D, 1, none⟩ y') B y' H' := by
  have gg := grownBy_set w ⟨D, 1, none⟩ y'
  refine ⟨?_, h3.elsewhere gg h1 (by decide) (by decide) (by decide), h4.elsewhere gg h1 (by decide)⟩
  rw [heap_setCell_same _ _ _ _ _ _ h1]; rfl
set_option maxRecDepth 100000 in
set_option maxHeartbeats 16000000 in
theorem dropOf_any (a : Option Addr) (n cap : Nat) (C : List M.Com) (a2 : Option Addr) (n2 cap2 : Nat) (H : List M.Hd) (s : ByteArray) (w : World) (hV : RepoV w a n cap C a2 n2 cap2 H) (hc2 : n2 ≤ cap2) (hcm : cap2 ≤ maxLen) :
    Calls Tryz.prog 53 #[.agg #[.slice a n cap, .slice a2 n2 cap2], .string s] w fun e w' => ∃ v, e = .returned (.tuple #[v, .int .i64 (M.dropE C H s)]) ∧ RepoOwn w' w.heap.size v (M.dropC C H s) (M.dropH C H s) ∧ Below w.heap.size w w' := by
  obtain ⟨p, hp⟩ : ∃ p, p = w.heap.size := ⟨_, rfl⟩
  obtain ⟨R, hR⟩ : ∃ R, R = p + 1 := ⟨_, rfl⟩
  have I0 := InBox.new w a n cap C a2 n2 cap2 H hV.cm hV.hs
  obtain ⟨W, hW⟩ : ∃ W, W = (w.alloc (.cells #[.slice a n cap, .slice a2 n2 cap2] 35)).alloc (.cells #[.slice none 0 0, .slice none 0 0] 35) := ⟨_, rfl⟩
  have hb0 : Below (w.alloc (.cells #[.slice a n cap, .slice a2 n2 cap2] 35)).heap.size (w.alloc (.cells #[.slice a n cap, .slice a2 n2 cap2] 35)) W := by rw [hW]; exact (Below.refl _ _).alloc (Nat.le_refl _) _
  have I1 := I0.below hb0
  rw [← hp] at I1
  have hb : Below w.heap.size w W := by rw [hW]; exact ((Below.refl _ _).alloc (Nat.le_refl _) _).alloc (by simp) _
  have hsz : W.heap.size = R + 1 := by rw [hW, hR, hp]; simp
  have q2 : W.heap[R]? = some (.cells #[.slice none 0 0, .slice none 0 0] 35 (0, 0)) := by
    rw [hW, show R = (w.alloc (.cells #[.slice a n cap, .slice a2 n2 cap2] 35)).heap.size by rw [hR, hp]; simp]
    exact heap_alloc_new _ _
  have HI : Hid (InBox W p a n cap C a2 n2 cap2 H) := I1
  have HVW : Hid (RepoV W a n cap C a2 n2 cap2 H) := hV.later hb
  have c0 := I1.c0
  have c1 := I1.c1
  obtain ⟨z, hz⟩ : ∃ z, z = M.hchk C H s := ⟨_, rfl⟩
  obtain ⟨x, hx⟩ : ∃ x, x = M.hat C H s := ⟨_, rfl⟩
  have K0 := headOf_any a n cap C a2 n2 cap2 H s W I1.cm hV.nm I1.hs hV.hm
  rw [← hz, ← hx] at K0
  have KH : Hid (Calls Tryz.prog 95 #[.agg #[.slice a n cap, .slice a2 n2 cap2], .string s] W fun e w' => e = .returned (.tuple #[.int .i64 x, .int .i64 z]) ∧ Below W.heap.size W w') := K0
  have HZ : Aside (z = M.hchk C H s) := hz
  have HQ2 : Hid (W.heap[R]? = some (.cells #[.slice none 0 0, .slice none 0 0] 35 (0, 0))) := q2
  have HW : Hid (W = (w.alloc (.cells #[.slice a n cap, .slice a2 n2 cap2] 35)).alloc (.cells #[.slice none 0 0, .slice none 0 0] 35)) := hW
  have HP : Aside (p = w.heap.size) := hp
  have HR : Aside (R = p + 1) := hR
  have HPR : Aside (w.heap.size ≤ p) := by unfold Aside; omega
  have HSz : Aside (W.heap.size = R + 1) := hsz
  have hpR : p < R := by omega
  have HNH : Aside (H.length = n2) := hV.hs.1
  have HCm : Hid (cap2 ≤ maxLen) := hcm
  clear hW hp hR hV hb0 I0 I1 K0 hz hx q2 hsz hcm
  go_enter Tryz.func53, Tryz.ntmps53
  go_wp2_with fail
  rw [← HW.out, ← HP.out, ← HR.out]
  go_wp2_with fail
  refine KH.out.mono ?_
  rintro e w1 ⟨rfl, b1⟩
  have hb1 : Below w.heap.size w w1 := hb.trans (b1.mono hb.size)
  have hRl : R < w1.heap.size := by have := HSz.out; have := b1.size; omega
  have r1 : w1.heap[R]? = some (.cells #[.slice none 0 0, .slice none 0 0] 35 (0, 0)) := (b1.block R (by have := HSz.out; omega)).trans HQ2.out
  have J1 := HI.out.below b1
  have d0 := J1.c0
  have d1 := J1.c1
  by_cases hz0 : z = 0
  · subst hz0
    have HZ0 : Hid (M.hchk C H s = 0) := HZ.out.symm
    have hr0 := (M.hchk_zero HZ0.out).1
    by_cases h1 : n2 = 1
    · have E : Aside (M.dropE C H s = 1) := by unfold Aside M.dropE; rw [if_neg (fun h => h HZ0.out), if_pos (by rw [HNH.out]; exact h1)]
      have EC : Aside (M.dropC C H s = [] ∧ M.dropH C H s = []) := ⟨by unfold M.dropC; rw [if_neg (by rw [E.out]; decide)], by unfold M.dropH; rw [if_neg (by rw [E.out]; decide)]⟩
      have hmb : ((n2 : Int) == 1) = true := by simp [h1]
      clear h1 J1 c0 c1 KH
      obtain ⟨g1, g2, g3⟩ := res_set r1 (.slice none 0 0) (.slice none 0 0)
      obtain ⟨X, hX⟩ : ∃ X, X = (w1.setCell ⟨R, 0, none⟩ (.slice none 0 0)).setCell ⟨R, 1, none⟩ (.slice none 0 0) := ⟨_, rfl⟩
      rw [← hX] at g1
      have bX : Below w.heap.size w X := by rw [hX]; exact (hb1.setCell (p := ⟨R, 0, none⟩) (by show _ ≤ R; have := HPR.out; omega) _).setCell (p := ⟨R, 1, none⟩) (by show _ ≤ R; have := HPR.out; omega) _
      have gX := g1
      have HX9 : Hid (X = (w1.setCell ⟨R, 0, none⟩ (.slice none 0 0)).setCell ⟨R, 1, none⟩ (.slice none 0 0)) := hX
      have HX0 : Aside (X.cell? ⟨R, 0, none⟩ = some (.slice none 0 0)) := by unfold Aside; rw [cell_of_row _ _ _ _ _ _ gX]; rfl
      have HX1 : Aside (X.cell? ⟨R, 1, none⟩ = some (.slice none 0 0)) := by unfold Aside; rw [cell_of_row _ _ _ _ _ _ gX]; rfl
      have x0 : w1.cell? ⟨R, 0, none⟩ = some (.slice none 0 0) := by rw [cell_of_row _ _ _ _ _ _ r1]; rfl
      have x1 : w1.cell? ⟨R, 1, none⟩ = some (.slice none 0 0) := by rw [cell_of_row _ _ _ _ _ _ r1]; rfl
      have f0 : w1.frozen? ⟨R, 0, none⟩ = false := frozen_of_row _ _ _ _ _ r1
      have f1 : w1.frozen? ⟨R, 1, none⟩ = false := frozen_of_row _ _ _ _ _ r1
      clear g1 g2 g3 hX gX r1
      go_wp2
      rw [← HX9.out]
      have y0 := HX0.out
      have y1 := HX1.out
      refine bodyPost_ret (v := .tuple #[.agg #[.slice none 0 0, .slice none 0 0], .int .i64 1]) (by simp [results, Tryz.results53, go_sem, y0, y1]) rfl ?_
      refine ⟨_, ret_two' E.out.symm, ?_, bX⟩
      rw [EC.out.1, EC.out.2]; exact RepoOwn.none _ _
    · have hmb : ((n2 : Int) == 1) = false := by simp; omega
      have E0 : Aside (M.dropE C H s = 0) := by unfold Aside M.dropE; rw [if_neg (fun h => h HZ0.out), if_neg (by rw [HNH.out]; exact h1)]
      have hlp : 0 ≤ M.plc H s := (M.hchk_zero HZ0.out).2
      have hll := M.plc_lt H s
      obtain ⟨kk, hkk⟩ : ∃ kk : Nat, M.plc H s = (kk : Int) := ⟨(M.plc H s).toNat, by omega⟩
      have hkl : kk < n2 := by rw [← HNH.out]; omega
      have EC : Aside (M.dropC C H s = C ∧ M.dropH C H s = H.take kk ++ H.drop (kk + 1)) := by
        refine ⟨by unfold M.dropC; rw [if_pos E0.out], ?_⟩
        unfold M.dropH
        rw [if_pos E0.out, hkk, Int.toNat_natCast, List.eraseIdx_eq_take_drop_succ]
      have KO : Hid (Calls Tryz.prog 17 #[.agg #[.slice a n cap, .slice a2 n2 cap2]] w1 fun e w' => ∃ v, e = .returned v ∧ RepoOwn w' w1.heap.size v C H ∧ Below w1.heap.size w1 w') := ownRepo_any a n cap C a2 n2 cap2 H w1 (HVW.out.later b1) hr0
      have hn4 : n2 ≤ 4 := by rw [← HNH.out]; exact (M.rchk_zero hr0).2.1
      clear h1 J1 c0 c1 KH
      go_wp2_with fail
      refine KO.out.mono ?_
      rintro e w2 ⟨v, rfl, ⟨xx, yy, rfl, ok, oh⟩, b2⟩
      obtain ⟨xa, xc, rfl, _⟩ := ok.cm
      obtain ⟨ya, yc, rfl, _⟩ := oh.hs
      obtain ⟨D, hD⟩ : ∃ D, D = w2.heap.size := ⟨_, rfl⟩
      obtain ⟨m, hm⟩ : ∃ m, m = C.length := ⟨_, rfl⟩
      rw [← hm, HNH.out]
      rw [← hm] at ok
      rw [HNH.out] at oh
      obtain ⟨W2, hW2⟩ : ∃ W2, W2 = w2.alloc (.cells #[.slice xa m xc, .slice ya n2 yc] 35) := ⟨_, rfl⟩
      have bW2 : Below w2.heap.size w2 W2 := by rw [hW2]; exact (Below.refl _ _).alloc (Nat.le_refl _) _
      have blk : W2.heap[D]? = some (.cells #[.slice xa m xc, .slice ya n2 yc] 35 (0, 0)) := by rw [hW2, hD]; exact heap_alloc_new _ _
      have q12 : Below w1.heap.size w1 W2 := b2.trans (bW2.mono b2.size)
      have bWW2 : Below W.heap.size W W2 := b1.trans (q12.mono b1.size)
      have HOK : Hid (OwnK W2 w1.heap.size (.slice xa m xc) C) := ok.later bW2
      have J2 := HI.out.below bWW2
      have e0 := J2.c0
      have e1 := J2.c1
      rw [hW2] at e0 e1
      have KA : Hid (Calls Tryz.prog 99 #[.agg #[.slice a n cap, .slice a2 n2 cap2], .string s] W2 fun e w' => e = .returned (.int .i64 (kk : Int)) ∧ Below W2.heap.size W2 w') := by
        have q := HVW.out.later bWW2
        have := headAt_any a n cap C a2 n2 cap2 H s W2 q.cm q.hs q.hm
        rw [hkk] at this
        exact this
      have HBlk : Hid (W2.heap[D]? = some (.cells #[.slice xa m xc, .slice ya n2 yc] 35 (0, 0))) := blk
      have HW2 : Hid (W2 = w2.alloc (.cells #[.slice xa m xc, .slice ya n2 yc] 35)) := hW2
      have HD : Aside (D = w2.heap.size) := hD
      have hD1 : w1.heap.size ≤ D := by rw [hD]; exact b2.size
      have r2 : W2.heap[R]? = some (.cells #[.slice none 0 0, .slice none 0 0] 35 (0, 0)) := (q12.block R hRl).trans r1
      clear hW2 hD ok oh blk hm d0 d1 b2 bW2 KO r1 hkk hll J2
      go_wp2_with fail
      rw [← HW2.out, ← HD.out]
      refine KA.out.mono ?_
      rintro e w3 ⟨rfl, b3⟩
      have q13 : Below w1.heap.size w1 w3 := q12.trans (b3.mono q12.size)
      have bW3 : Below W.heap.size W w3 := b1.trans (q13.mono b1.size)
      have blk3 : w3.heap[D]? = some (.cells #[.slice xa m xc, .slice ya n2 yc] 35 (0, 0)) := (b3.block D (Array.getElem?_eq_some_iff.1 HBlk.out).1).trans HBlk.out
      have hD3 : D < w3.heap.size := (Array.getElem?_eq_some_iff.1 blk3).1
      have r3 : w3.heap[R]? = some (.cells #[.slice none 0 0, .slice none 0 0] 35 (0, 0)) := (b3.block R (Array.getElem?_eq_some_iff.1 r2).1).trans r2
      have HK3 : Hid (OwnK w3 w1.heap.size (.slice xa m xc) C) := HOK.out.later b3
      have J3 := HI.out.below bW3
      have g1 := J3.c1
      obtain ⟨b, off, rfl, hB3⟩ : ∃ b off, a2 = some ⟨b, off, none⟩ ∧ b < w3.heap.size := by
        obtain ⟨_, h0 | ⟨b, off, e, hB, _⟩⟩ := J3.hs
        · omega
        · exact ⟨b, off, e, hB⟩
      have HHs : Hid (Hs w3 (some ⟨b, off, none⟩) n2 H) := J3.hs
      have hp3 : p < w3.heap.size := J3.lt
      have hk1 : (kk : Int) ≤ (cap2 : Int) := by omega
      have hk2 : (kk : Int) + 1 ≤ (n2 : Int) := by omega
      have hk3 : IntKind.i64.wrap ((kk : Int) + 1) = ((kk + 1 : Nat) : Int) := by rw [IntKind.wrap_i64]; omega
      have hk4 : 0 ≤ (kk : Int) + 1 := by omega
      have HH2 : Hid (Hs w3 (if cap2 = kk + 1 then some ⟨b, off, none⟩ else some ⟨b, off + (kk + 1) * 2, none⟩) (n2 - (kk + 1)) (H.drop (kk + 1))) := by
        unfold Hid
        split
        · exact ⟨by rw [List.length_drop, HNH.out], Or.inl (by omega)⟩
        · exact HHs.out.drop (kk + 1)
      have HH1 : Hid (Hs w3 (some ⟨b, off, none⟩) kk (H.take kk)) := HHs.out.take kk (by omega)
      have HNs : Hid ((if cap2 = kk + 1 then some (⟨b, off, none⟩ : Addr) else some ⟨b, off + (kk + 1) * 2, none⟩) = none → n2 - (kk + 1) = 0 ∧ cap2 - (kk + 1) = 0) := fun h => by split at h <;> simp at h
      have HSV : Hid (∀ V, Below w3.heap.size w3 V → V.cell? ⟨p, 1, none⟩ = some (.slice (some ⟨b, off, none⟩) n2 cap2)) := fun V hV => (hV.cell (p := ⟨p, 1, none⟩) hp3).trans g1
      have HBd : Hid (Below w3.heap.size w3 w3.drew) := (Below.refl _ _).drew
      have hW13 := q13.size
      clear e0 e1 KA b3 J3 r2 q12
      go_wp2_with fail
      refine wp_region_till 13 (fun V => V.cell? ⟨p, 1, none⟩ = some (.slice (some ⟨b, off, none⟩) n2 cap2)) (by kernel_rfl) (HSV.out _ HBd.out) (fun hHeld => ?_)
      refine till_go 1 (v := .pointer (some ⟨p, 1, none⟩)) rfl (by decide) (by kernel_rfl) (by kernel_rfl) (by kernel_rfl) (fun _ _ _ h => h) (Or.inl ⟨by rfl, fun V _ => (by go_simp)⟩) hHeld ?_
      try simp only [Act.put]
      refine till_take 2 (v := .slice (some ⟨b, off, none⟩) n2 cap2) rfl (by decide) (by kernel_rfl) (by kernel_rfl) (by kernel_rfl) (by kernel_rfl) (by kernel_rfl) (fun _ _ _ h => h) (Or.inl ⟨by rfl, fun V hV => (by have v0 := hV; go_simp)⟩) hHeld ?_
      try simp only [Act.put]
      refine till_go 3 (v := .int .i64 (kk : Int)) rfl (by decide) (by kernel_rfl) (by kernel_rfl) (by kernel_rfl) (fun _ _ _ h => h) (Or.inl ⟨by rfl, fun V _ => (by go_simp)⟩) hHeld ?_
      try simp only [Act.put]
      refine till_go 4 (v := .slice (some ⟨b, off, none⟩) kk cap2) rfl (by decide) (by kernel_rfl) (by kernel_rfl) (by kernel_rfl) (fun _ _ _ h => h) (Or.inl ⟨by rfl, fun V _ => (by go_simp)⟩) hHeld ?_
      try simp only [Act.put]
      refine till_go 6 (v := .pointer (some ⟨p, 1, none⟩)) rfl (by decide) (by kernel_rfl) (by kernel_rfl) (by kernel_rfl) (fun _ _ _ h => h) (Or.inl ⟨by rfl, fun V _ => (by go_simp)⟩) hHeld ?_
      try simp only [Act.put]
      refine till_take 7 (v := .slice (some ⟨b, off, none⟩) n2 cap2) rfl (by decide) (by kernel_rfl) (by kernel_rfl) (by kernel_rfl) (by kernel_rfl) (by kernel_rfl) (fun _ _ _ h => h) (Or.inl ⟨by rfl, fun V hV => (by have v0 := hV; go_simp)⟩) hHeld ?_
      try simp only [Act.put]
      refine till_go 8 (v := .int .i64 (kk : Int)) rfl (by decide) (by kernel_rfl) (by kernel_rfl) (by kernel_rfl) (fun _ _ _ h => h) (Or.inl ⟨by rfl, fun V _ => (by go_simp)⟩) hHeld ?_
      try simp only [Act.put]
      refine till_go 9 (v := .int .i64 ((kk + 1 : Nat) : Int)) rfl (by decide) (by kernel_rfl) (by kernel_rfl) (by kernel_rfl) (fun _ _ _ h => h) (Or.inl ⟨by rfl, fun V _ => (by go_simp)⟩) hHeld ?_
      try simp only [Act.put]
      refine till_go 10 (v := .slice (if cap2 = kk + 1 then some ⟨b, off, none⟩ else some ⟨b, off + (kk + 1) * 2, none⟩) (n2 - (kk + 1)) (cap2 - (kk + 1))) rfl (by decide) (by kernel_rfl) (by kernel_rfl) (by kernel_rfl) (fun _ _ _ h => h) (Or.inl ⟨by rfl, fun V _ => (by go_simp)⟩) hHeld ?_
      try simp only [Act.put]
      generalize (if cap2 = kk + 1 then some (⟨b, off, none⟩ : Addr) else some ⟨b, off + (kk + 1) * 2, none⟩) = sa at *
      refine till_step 0 rfl (by decide) (by kernel_rfl) (fun K hK => ?_)
      go_simp
      have pb1 : Below w3.heap.size w3 (w3.alloc (.cells #[] 58)).drew := ((Below.refl _ _).alloc (Nat.le_refl _) _).drew
      have oh1 : OwnH (w3.alloc (.cells #[] 58)).drew w3.heap.size (.slice (some ⟨w3.heap.size, 0, none⟩) 0 0) [] := ⟨ownsRow_later (own_empty w3 _ _ _ (Nat.le_refl _)) ((Below.refl _ _).drew), fun x hx => by simp at hx⟩
      refine hK.out _ _ (HSV.out _ pb1) (fun hHeld => ?_)
      clear hK K
      refine till_step 5 rfl (by decide) (by kernel_rfl) (fun K hK => ?_)
      refine step_heads rfl _ _ rfl w3.heap.size _ [] rfl oh1 (some ⟨b, off, none⟩) kk cap2 (H.take kk) rfl (HH1.out.below pb1 (Nat.le_refl _)) (fun h => by simp at h) (by simp; omega) pb1.size ?_
      intro v4 w4 o4 g4
      simp only [List.nil_append] at o4
      have pb4 : Below w3.heap.size w3 w4 := pb1.trans (below_grown g4 (fun k e => by have e2 := Option.some.inj e; simp at e2; omega) pb1.size)
      refine hK.out _ _ (HSV.out _ pb4) (fun hHeld => ?_)
      clear hK K
      refine till_step 11 rfl (by decide) (by kernel_rfl) (fun K hK => ?_)
      refine step_heads rfl _ _ rfl w3.heap.size _ (H.take kk) rfl o4 sa (n2 - (kk + 1)) (cap2 - (kk + 1)) (H.drop (kk + 1)) rfl (HH2.out.below pb4 (Nat.le_refl _)) HNs.out (by rw [List.length_take, HNH.out]; omega) pb4.size ?_
      intro v5 w5 o5 g5
      have pb5 : Below w3.heap.size w3 w5 := pb4.trans (below_grown g5 (fun k e => (World.ownsRow.lt o4.1 k e).1) pb4.size)
      obtain ⟨va, vc, rfl, _⟩ := o5.hs
      obtain ⟨vn, hvn⟩ : ∃ vn, vn = (H.take kk ++ H.drop (kk + 1)).length := ⟨_, rfl⟩
      rw [← hvn] at o5 ⊢
      have blk5 : w5.heap[D]? = some (.cells #[.slice xa m xc, .slice ya n2 yc] 35 (0, 0)) := (pb5.block D hD3).trans blk3
      have r5 : w5.heap[R]? = some (.cells #[.slice none 0 0, .slice none 0 0] 35 (0, 0)) := (pb5.block R (Array.getElem?_eq_some_iff.1 r3).1).trans r3
      obtain ⟨P1, P2, P3⟩ := boxed_heads (y' := .slice va vn vc) blk5 (HK3.out.later pb5) (o5.lower hW13)
      obtain ⟨W6, hW6⟩ : ∃ W6, W6 = w5.setCell ⟨D, 1, none⟩ (.slice va vn vc) := ⟨_, rfl⟩
      rw [← hW6] at P1 P2 P3
      have hRD : R ≠ D := by omega
      have r6 : W6.heap[R]? = some (.cells #[.slice none 0 0, .slice none 0 0] 35 (0, 0)) := by rw [hW6, heap_setCell_other _ _ _ _ (by exact hRD)]; exact r5
      have hb5 : Below w.heap.size w W6 := by rw [hW6]; exact ((hb1.trans (q13.mono hb1.size)).trans (pb5.mono (by have := hb1.size; omega))).setCell (p := ⟨D, 1, none⟩) (by show _ ≤ D; have := hb1.size; omega) _
      have HRO : Aside (RepoOwn ((W6.setCell ⟨R, 0, none⟩ (.slice xa m xc)).setCell ⟨R, 1, none⟩ (.slice va vn vc)) w.heap.size (.agg #[.slice xa m xc, .slice va vn vc]) (M.dropC C H s) (M.dropH C H s)) := by unfold Aside; rw [EC.out.1, EC.out.2]; exact (repoOwn_set r6 P2 P3).lower hb1.size
      obtain ⟨g1', g2', g3'⟩ := res_set r6 (.slice xa m xc) (.slice va vn vc)
      obtain ⟨X, hX⟩ : ∃ X, X = (W6.setCell ⟨R, 0, none⟩ (.slice xa m xc)).setCell ⟨R, 1, none⟩ (.slice va vn vc) := ⟨_, rfl⟩
      rw [← hX] at g1' HRO
      have bX : Below w.heap.size w X := by rw [hX]; exact (hb5.setCell (p := ⟨R, 0, none⟩) (by show _ ≤ R; have := HPR.out; omega) _).setCell (p := ⟨R, 1, none⟩) (by show _ ≤ R; have := HPR.out; omega) _
      have HX9 : Hid (X = (W6.setCell ⟨R, 0, none⟩ (.slice xa m xc)).setCell ⟨R, 1, none⟩ (.slice va vn vc)) := hX
      have HW6 : Hid (W6 = w5.setCell ⟨D, 1, none⟩ (.slice va vn vc)) := hW6
      have HX0 : Aside (X.cell? ⟨R, 0, none⟩ = some (.slice xa m xc)) := by unfold Aside; rw [cell_of_row _ _ _ _ _ _ g1']; rfl
      have HX1 : Aside (X.cell? ⟨R, 1, none⟩ = some (.slice va vn vc)) := by unfold Aside; rw [cell_of_row _ _ _ _ _ _ g1']; rfl
      have f5 : w5.frozen? ⟨D, 1, none⟩ = false := frozen_of_row _ _ _ _ _ blk5
      have k5 : w5.cell? ⟨D, 1, none⟩ = some (.slice ya n2 yc) := by rw [cell_of_row _ _ _ _ _ _ blk5]; rfl
      have e0' : W6.cell? ⟨D, 0, none⟩ = some (.slice xa m xc) := by rw [cell_of_row _ _ _ _ _ _ P1]; rfl
      have e1' : W6.cell? ⟨D, 1, none⟩ = some (.slice va vn vc) := by rw [cell_of_row _ _ _ _ _ _ P1]; rfl
      have x0' : W6.cell? ⟨R, 0, none⟩ = some (.slice none 0 0) := by rw [cell_of_row _ _ _ _ _ _ r6]; rfl
      have x1' : W6.cell? ⟨R, 1, none⟩ = some (.slice none 0 0) := by rw [cell_of_row _ _ _ _ _ _ r6]; rfl
      have f0' : W6.frozen? ⟨R, 0, none⟩ = false := frozen_of_row _ _ _ _ _ r6
      have f1' : W6.frozen? ⟨R, 1, none⟩ = false := frozen_of_row _ _ _ _ _ r6
      have HPB : Hid (Below w3.heap.size w3 w5) := pb5
      clear g1' g2' g3' hX hW6 P1 P2 P3 r6 r5 blk5 hvn pb1 pb4 pb5 g4 g5 o4 o5 oh1 r3 blk3
      refine hK.out _ _ (HSV.out _ HPB.out) (fun hHeld => ?_)
      clear hK K
      refine till_go 12 (v := .pointer (some ⟨D, 1, none⟩)) rfl (by decide) (by kernel_rfl) (by kernel_rfl) (by kernel_rfl) (fun _ _ _ h => h) (Or.inl ⟨by rfl, fun V _ => (by go_simp)⟩) hHeld ?_
      try simp only [Act.put]
      refine till_last rfl (by kernel_rfl) (by kernel_rfl) (fun K hK => ?_) _
      go_simp
      rw [← HW6.out]
      refine hK.out _ _ ?_
      clear hK K f5 k5
      go_wp2
      rw [← HX9.out]
      have y0 := HX0.out
      have y1 := HX1.out
      refine bodyPost_ret (v := .tuple #[.agg #[.slice xa m xc, .slice va vn vc], .int .i64 0]) (by simp [results, Tryz.results53, go_sem, y0, y1]) rfl ?_
      exact ⟨_, ret_two' E0.out.symm, HRO.out, bX⟩
  · have hzb : (z != 0) = true := by simp [hz0]
    have EE : Aside (M.dropE C H s = z) := by unfold Aside M.dropE; rw [← HZ.out, if_pos hz0]
    have EC : Aside (M.dropC C H s = [] ∧ M.dropH C H s = []) := ⟨by unfold M.dropC; rw [if_neg (by rw [EE.out]; exact hz0)], by unfold M.dropH; rw [if_neg (by rw [EE.out]; exact hz0)]⟩
    clear hz0 J1 d0 d1 c0 c1 KH
    obtain ⟨g1, g2, g3⟩ := res_set r1 (.slice none 0 0) (.slice none 0 0)
    obtain ⟨X, hX⟩ : ∃ X, X = (w1.setCell ⟨R, 0, none⟩ (.slice none 0 0)).setCell ⟨R, 1, none⟩ (.slice none 0 0) := ⟨_, rfl⟩
    rw [← hX] at g1
    have bX : Below w.heap.size w X := by rw [hX]; exact (hb1.setCell (p := ⟨R, 0, none⟩) (by show _ ≤ R; have := HPR.out; omega) _).setCell (p := ⟨R, 1, none⟩) (by show _ ≤ R; have := HPR.out; omega) _
    have gX := g1
    have HX9 : Hid (X = (w1.setCell ⟨R, 0, none⟩ (.slice none 0 0)).setCell ⟨R, 1, none⟩ (.slice none 0 0)) := hX
    have HX0 : Aside (X.cell? ⟨R, 0, none⟩ = some (.slice none 0 0)) := by unfold Aside; rw [cell_of_row _ _ _ _ _ _ gX]; rfl
    have HX1 : Aside (X.cell? ⟨R, 1, none⟩ = some (.slice none 0 0)) := by unfold Aside; rw [cell_of_row _ _ _ _ _ _ gX]; rfl
    have x0 : w1.cell? ⟨R, 0, none⟩ = some (.slice none 0 0) := by rw [cell_of_row _ _ _ _ _ _ r1]; rfl
    have x1 : w1.cell? ⟨R, 1, none⟩ = some (.slice none 0 0) := by rw [cell_of_row _ _ _ _ _ _ r1]; rfl
    have f0 : w1.frozen? ⟨R, 0, none⟩ = false := frozen_of_row _ _ _ _ _ r1
    have f1 : w1.frozen? ⟨R, 1, none⟩ = false := frozen_of_row _ _ _ _ _ r1
    clear g1 g2 g3 hX gX r1
    go_wp2
    rw [← HX9.out]
    have y0 := HX0.out
    have y1 := HX1.out
    refine bodyPost_ret (v := .tuple #[.agg #[.slice none 0 0, .slice none 0 0], .int .i64 z]) (by simp [results, Tryz.results53, go_sem, y0, y1]) rfl ?_
    refine ⟨_, ret_two' EE.out.symm, ?_, bX⟩
    rw [EC.out.1, EC.out.2]; exact RepoOwn.none _ _
theorem M.brE_at {C : List M.Com} {H : List M.Hd} {s t : ByteArray} (hz : M.hchk C H t = 0) :
    (M.nam s = false → M.brE C H s t = 4) ∧ (M.nam s = true → 0 ≤ M.plc H s → M.brE C H s t = 6) ∧ (M.nam s = true → M.plc H s < 0 → H.length = 4 → M.brE C H s t = 2) ∧ (M.nam s = true → M.plc H s < 0 → H.length ≠ 4 → M.brE C H s t = 0) := by
  have h4 := (M.rchk_zero (M.hchk_zero hz).1).2.1
  unfold M.brE
  refine ⟨fun h => ?_, fun h1 h2 => ?_, fun h1 h2 h3 => ?_, fun h1 h2 h3 => ?_⟩
  · simp [hz, h]
  · simp [hz, h1, h2]
  · have : ¬ 0 ≤ M.plc H s := by omega
    simp [hz, h1, this, h3]
  · have : ¬ 0 ≤ M.plc H s := by omega
    have h5 : ¬ 4 ≤ H.length := by omega
    simp [hz, h1, this, h5]
def M.insOk (x : M.Hd) (H : List M.Hd) (k : Nat) (dn : Bool) (O : List M.Hd) : Prop := O ++ (if dn = true then H.drop k else M.insH x (H.drop k)) = M.insH x H ∧ O.length = k + (if dn = true then 1 else 0)
theorem M.insOk_zero (x : M.Hd) (H : List M.Hd) : M.insOk x H 0 false [] := ⟨by simp, by simp⟩
theorem M.insOk_in {x : M.Hd} {H O : List M.Hd} {k : Nat} (h : M.insOk x H k false O) (hk : k < H.length) (hl : M.less x.1 (H.getD k M.hd0).1 = true) : M.insOk x H (k + 1) true (O ++ [x] ++ [H.getD k M.hd0]) := by
  obtain ⟨h1, h2⟩ := h
  rw [M.hdrop H k hk] at h1
  refine ⟨?_, by simp at h2 ⊢; omega⟩
  simp only [Bool.false_eq_true, if_false] at h1
  have e : M.insH x (H.getD k M.hd0 :: H.drop (k + 1)) = x :: H.getD k M.hd0 :: H.drop (k + 1) := by rw [M.insH, if_pos hl]
  rw [e] at h1
  simp only [if_true]
  rw [← h1]
  simp
theorem M.insOk_by {x : M.Hd} {H O : List M.Hd} {k : Nat} {dn : Bool} (h : M.insOk x H k dn O) (hk : k < H.length) (hl : dn = false → M.less x.1 (H.getD k M.hd0).1 = false) : M.insOk x H (k + 1) dn (O ++ [H.getD k M.hd0]) := by
  obtain ⟨h1, h2⟩ := h
  rw [M.hdrop H k hk] at h1
  cases dn with
  | true =>
    refine ⟨?_, by simp at h2 ⊢; omega⟩
    simp only [if_true] at h1 ⊢
    rw [← h1]; simp
  | false =>
    refine ⟨?_, by simp at h2 ⊢; omega⟩
    simp only [Bool.false_eq_true, if_false] at h1 ⊢
    have e : M.insH x (H.getD k M.hd0 :: H.drop (k + 1)) = H.getD k M.hd0 :: M.insH x (H.drop (k + 1)) := by rw [M.insH, if_neg (by rw [hl rfl]; simp)]
    rw [e] at h1
    rw [← h1]; simp
theorem M.insOk_end {x : M.Hd} {H O : List M.Hd} {dn : Bool} (h : M.insOk x H H.length dn O) : (if dn = true then O else O ++ [x]) = M.insH x H := by
  obtain ⟨h1, h2⟩ := h
  rw [List.drop_length] at h1
  cases dn with
  | true => simpa using h1
  | false => simpa [M.insH] using h1
structure BAt (w0 : World) (B D : Nat) (x y : Value) (C : List M.Com) (O : List M.Hd) (w : World) : Prop where
  bel : Below D w0 w
  blk : w.heap[D]? = some (.cells #[x, y] 35 (0, 0))
  k : OwnK w B x C
  h : OwnH w D y O
theorem head_new (w : World) (s : ByteArray) (n : Int) (hs : s.size ≤ 9223372036854775807) : Hs (w.alloc (.cells #[.string s, .int .i64 n] 58)) (some ⟨w.heap.size, 0, none⟩) 1 [(s, n)] :=
  ⟨rfl, Or.inr ⟨w.heap.size, 0, rfl, by simp, fun i hi => by
    obtain rfl : i = 0 := by omega
    exact ⟨by simp [go_sem], by simp [go_sem], hs⟩⟩⟩
theorem BAt.put {w0 w w' : World} {B D : Nat} {x y y' : Value} {C : List M.Com} {O : List M.Hd} {q : M.Hd} (h : BAt w0 B D x y C O w) (tmp : Obj) (ho : OwnH w' D y' (O ++ [q])) (hg : (w.alloc tmp).grownBy w' y.ownBlock) :
    BAt w0 B D x y' C (O ++ [q]) (w'.setCell ⟨D, 1, none⟩ y') ∧ w'.heap[D]? = some (.cells #[x, y] 35 (0, 0)) := by
  have hlt := (Array.getElem?_eq_some_iff.1 h.blk).1
  have hba : Below w.heap.size w (w.alloc tmp) := (Below.refl _ _).alloc (Nat.le_refl _) _
  have typ : ∀ r, y.ownBlock = some r → ∃ cur, (w.alloc tmp).heap[r]? = some (.cells cur 58 (0, 0)) := by
    intro r e
    rcases (h.h.1.alloc tmp).2 with ⟨rfl, _⟩ | ⟨g, cap, cur', rfl, _, hgb, _⟩
    · simp [Value.ownBlock] at e
    · obtain rfl : g = r := by simpa [Value.ownBlock] using e
      exact ⟨_, hgb⟩
  have other : ∀ e, e ≠ 58 → ∀ r, y.ownBlock = some r → ∀ cur, (w.alloc tmp).heap[r]? ≠ some (.cells cur e (0, 0)) := by
    intro e he r hr cur hc
    obtain ⟨cur', hcur⟩ := typ r hr
    rw [hcur] at hc
    simp at hc
    exact he hc.2.symm
  have hDa : (w.alloc tmp).heap[D]? = some (.cells #[x, y] 35 (0, 0)) := by rw [Below.heap_alloc _ _ _ hlt]; exact h.blk
  have hne : y.ownBlock ≠ some D := fun e => other _ (by decide) D e _ hDa
  have hbk : w'.heap[D]? = some (.cells #[x, y] 35 (0, 0)) := by
    rw [hg.block D (by simp; omega) (fun e => hne e.symm)]; exact hDa
  have b1 : Below D w0 w' := (h.bel.alloc (Nat.le_of_lt hlt) tmp).grown hg (by simp; omega) (fun k e => (World.ownsRow.lt h.h.1 k e).1)
  obtain ⟨vals, k1, k2, k3⟩ := h.k.later hba
  have K' : OwnK w' B x C := ⟨vals, k1, ownsRow_elsewhere k2 hg (other _ (by decide)), fun i hi => ⟨ownsRow_elsewhere (k3 i hi).1 hg (other _ (by decide)), ownsRow_elsewhere (k3 i hi).2.1 hg (other _ (by decide)), (k3 i hi).2.2⟩⟩
  have g2 := grownBy_set w' ⟨D, 1, none⟩ y'
  refine ⟨⟨b1.setCell (p := ⟨D, 1, none⟩) (Nat.le_refl _) _, ?_, K'.elsewhere g2 hbk (by decide) (by decide) (by decide), ho.elsewhere g2 hbk (by decide)⟩, hbk⟩
  rw [heap_setCell_same _ _ _ _ _ _ hbk]; rfl
set_option maxRecDepth 100000 in
set_option maxHeartbeats 16000000 in
theorem branchOf_any (a : Option Addr) (n cap : Nat) (C : List M.Com) (a2 : Option Addr) (n2 cap2 : Nat) (H : List M.Hd) (s t : ByteArray) (w : World) (hV : RepoV w a n cap C a2 n2 cap2 H) (hss : s.size ≤ 9223372036854775807) :
    Calls Tryz.prog 51 #[.agg #[.slice a n cap, .slice a2 n2 cap2], .string s, .string t] w fun e w' => ∃ v, e = .returned (.tuple #[v, .int .i64 (M.brE C H s t)]) ∧ RepoOwn w' w.heap.size v (M.brC C H s t) (M.brH C H s t) ∧ Below w.heap.size w w' := by
  obtain ⟨p, hp⟩ : ∃ p, p = w.heap.size := ⟨_, rfl⟩
  obtain ⟨R, hR⟩ : ∃ R, R = p + 1 := ⟨_, rfl⟩
  have I0 := InBox.new w a n cap C a2 n2 cap2 H hV.cm hV.hs
  obtain ⟨W, hW⟩ : ∃ W, W = (w.alloc (.cells #[.slice a n cap, .slice a2 n2 cap2] 35)).alloc (.cells #[.slice none 0 0, .slice none 0 0] 35) := ⟨_, rfl⟩
  have hb0 : Below (w.alloc (.cells #[.slice a n cap, .slice a2 n2 cap2] 35)).heap.size (w.alloc (.cells #[.slice a n cap, .slice a2 n2 cap2] 35)) W := by rw [hW]; exact (Below.refl _ _).alloc (Nat.le_refl _) _
  have I1 := I0.below hb0
  rw [← hp] at I1
  have hb : Below w.heap.size w W := by rw [hW]; exact ((Below.refl _ _).alloc (Nat.le_refl _) _).alloc (by simp) _
  have hsz : W.heap.size = R + 1 := by rw [hW, hR, hp]; simp
  have q2 : W.heap[R]? = some (.cells #[.slice none 0 0, .slice none 0 0] 35 (0, 0)) := by
    rw [hW, show R = (w.alloc (.cells #[.slice a n cap, .slice a2 n2 cap2] 35)).heap.size by rw [hR, hp]; simp]
    exact heap_alloc_new _ _
  have HI : Hid (InBox W p a n cap C a2 n2 cap2 H) := I1
  have HVW : Hid (RepoV W a n cap C a2 n2 cap2 H) := hV.later hb
  have c0 := I1.c0
  have c1 := I1.c1
  obtain ⟨z, hz⟩ : ∃ z, z = M.hchk C H t := ⟨_, rfl⟩
  obtain ⟨x, hx⟩ : ∃ x, x = M.hat C H t := ⟨_, rfl⟩
  have K0 := headOf_any a n cap C a2 n2 cap2 H t W I1.cm hV.nm I1.hs hV.hm
  rw [← hz, ← hx] at K0
  have KH : Hid (Calls Tryz.prog 95 #[.agg #[.slice a n cap, .slice a2 n2 cap2], .string t] W fun e w' => e = .returned (.tuple #[.int .i64 x, .int .i64 z]) ∧ Below W.heap.size W w') := K0
  have HZ : Aside (z = M.hchk C H t) := hz
  have HX : Aside (x = M.hat C H t) := hx
  have HQ2 : Hid (W.heap[R]? = some (.cells #[.slice none 0 0, .slice none 0 0] 35 (0, 0))) := q2
  have HW : Hid (W = (w.alloc (.cells #[.slice a n cap, .slice a2 n2 cap2] 35)).alloc (.cells #[.slice none 0 0, .slice none 0 0] 35)) := hW
  have HP : Aside (p = w.heap.size) := hp
  have HR : Aside (R = p + 1) := hR
  have HPR : Aside (w.heap.size ≤ p) := by unfold Aside; omega
  have HSz : Aside (W.heap.size = R + 1) := hsz
  have hpR : p < R := by omega
  have HNH : Aside (H.length = n2) := hV.hs.1
  clear hW hp hR hV hb0 I0 I1 K0 hz hx q2 hsz
  go_enter Tryz.func51, Tryz.ntmps51
  go_wp2_with fail
  rw [← HW.out, ← HP.out, ← HR.out]
  go_wp2_with fail
  refine KH.out.mono ?_
  rintro e w1 ⟨rfl, b1⟩
  have hb1 : Below w.heap.size w w1 := hb.trans (b1.mono hb.size)
  have hRl : R < w1.heap.size := by have := HSz.out; have := b1.size; omega
  have r1 : w1.heap[R]? = some (.cells #[.slice none 0 0, .slice none 0 0] 35 (0, 0)) := (b1.block R (by have := HSz.out; omega)).trans HQ2.out
  have J1 := HI.out.below b1
  have d0 := J1.c0
  have d1 := J1.c1
  by_cases hz0 : z = 0
  · subst hz0
    have HZ0 : Hid (M.hchk C H t = 0) := HZ.out.symm
    have hr0 := (M.hchk_zero HZ0.out).1
    obtain ⟨tn, ht⟩ : ∃ tn, tn = M.nam s := ⟨_, rfl⟩
    have K1 := rname_any s w1 hss
    rw [← ht] at K1
    have KN : Hid (Calls Tryz.prog 44 #[.string s] w1 fun e w' => e = .returned (.bool tn) ∧ Below w1.heap.size w1 w') := K1
    have HT : Aside (tn = M.nam s) := ht
    clear K1 ht c0 c1 J1 KH d0 d1
    go_wp2_with fail
    refine KN.out.mono ?_
    rintro e w2 ⟨rfl, b2⟩
    have hb2 : Below w.heap.size w w2 := hb1.trans (b2.mono hb1.size)
    have r2 : w2.heap[R]? = some (.cells #[.slice none 0 0, .slice none 0 0] 35 (0, 0)) := (b2.block R hRl).trans r1
    have hRl2 : R < w2.heap.size := (Array.getElem?_eq_some_iff.1 r2).1
    have bW2 : Below W.heap.size W w2 := b1.trans (b2.mono b1.size)
    have J2 := HI.out.below bW2
    have e0 := J2.c0
    have e1 := J2.c1
    clear b2 KN r1 J2
    cases tn with
    | false =>
      have E : Aside (M.brE C H s t = 4) := (M.brE_at HZ0.out).1 HT.out.symm
      have EC : Aside (M.brC C H s t = [] ∧ M.brH C H s t = []) := ⟨by unfold M.brC; rw [if_neg (by rw [E.out]; decide)], by unfold M.brH; rw [if_neg (by rw [E.out]; decide)]⟩
      obtain ⟨g1, g2, g3⟩ := res_set r2 (.slice none 0 0) (.slice none 0 0)
      obtain ⟨X, hX⟩ : ∃ X, X = (w2.setCell ⟨R, 0, none⟩ (.slice none 0 0)).setCell ⟨R, 1, none⟩ (.slice none 0 0) := ⟨_, rfl⟩
      rw [← hX] at g1
      have bX : Below w.heap.size w X := by rw [hX]; exact (hb2.setCell (p := ⟨R, 0, none⟩) (by show _ ≤ R; have := HPR.out; omega) _).setCell (p := ⟨R, 1, none⟩) (by show _ ≤ R; have := HPR.out; omega) _
      have gX := g1
      have HX9 : Hid (X = (w2.setCell ⟨R, 0, none⟩ (.slice none 0 0)).setCell ⟨R, 1, none⟩ (.slice none 0 0)) := hX
      have HX0 : Aside (X.cell? ⟨R, 0, none⟩ = some (.slice none 0 0)) := by unfold Aside; rw [cell_of_row _ _ _ _ _ _ gX]; rfl
      have HX1 : Aside (X.cell? ⟨R, 1, none⟩ = some (.slice none 0 0)) := by unfold Aside; rw [cell_of_row _ _ _ _ _ _ gX]; rfl
      have x0 : w2.cell? ⟨R, 0, none⟩ = some (.slice none 0 0) := by rw [cell_of_row _ _ _ _ _ _ r2]; rfl
      have x1 : w2.cell? ⟨R, 1, none⟩ = some (.slice none 0 0) := by rw [cell_of_row _ _ _ _ _ _ r2]; rfl
      have f0 : w2.frozen? ⟨R, 0, none⟩ = false := frozen_of_row _ _ _ _ _ r2
      have f1 : w2.frozen? ⟨R, 1, none⟩ = false := frozen_of_row _ _ _ _ _ r2
      clear g1 g2 g3 hX gX r2
      go_wp2
      rw [← HX9.out]
      have y0 := HX0.out
      have y1 := HX1.out
      refine bodyPost_ret (v := .tuple #[.agg #[.slice none 0 0, .slice none 0 0], .int .i64 4]) (by simp [results, Tryz.results51, go_sem, y0, y1]) rfl ?_
      refine ⟨_, ret_two' E.out.symm, ?_, bX⟩
      rw [EC.out.1, EC.out.2]; exact RepoOwn.none _ _
    | true =>
      obtain ⟨pl, hpl⟩ : ∃ pl, pl = M.plc H s := ⟨_, rfl⟩
      have K2 := headAt_any a n cap C a2 n2 cap2 H s w2 (HVW.out.later bW2).cm (HVW.out.later bW2).hs (HVW.out.later bW2).hm
      rw [← hpl] at K2
      have KA : Hid (Calls Tryz.prog 99 #[.agg #[.slice a n cap, .slice a2 n2 cap2], .string s] w2 fun e w' => e = .returned (.int .i64 pl) ∧ Below w2.heap.size w2 w') := K2
      have HPl : Aside (pl = M.plc H s) := hpl
      clear K2 hpl
      go_wp2_with fail
      refine KA.out.mono ?_
      rintro e w3 ⟨rfl, b3⟩
      have hb3 : Below w.heap.size w w3 := hb2.trans (b3.mono hb2.size)
      have r3 : w3.heap[R]? = some (.cells #[.slice none 0 0, .slice none 0 0] 35 (0, 0)) := (b3.block R hRl2).trans r2
      have hRl3 : R < w3.heap.size := (Array.getElem?_eq_some_iff.1 r3).1
      have bW3 : Below W.heap.size W w3 := bW2.trans (b3.mono bW2.size)
      have J3 := HI.out.below bW3
      have f0' := J3.c0
      have f1' := J3.c1
      clear b3 KA r2 J3 e0 e1
      by_cases hp0 : 0 ≤ pl
      · have E : Aside (M.brE C H s t = 6) := (M.brE_at HZ0.out).2.1 HT.out.symm (by rw [← HPl.out]; exact hp0)
        have hpb : decide (0 ≤ pl) = true := by simp [hp0]
        have EC : Aside (M.brC C H s t = [] ∧ M.brH C H s t = []) := ⟨by unfold M.brC; rw [if_neg (by rw [E.out]; decide)], by unfold M.brH; rw [if_neg (by rw [E.out]; decide)]⟩
        obtain ⟨g1, g2, g3⟩ := res_set r3 (.slice none 0 0) (.slice none 0 0)
        obtain ⟨X, hX⟩ : ∃ X, X = (w3.setCell ⟨R, 0, none⟩ (.slice none 0 0)).setCell ⟨R, 1, none⟩ (.slice none 0 0) := ⟨_, rfl⟩
        rw [← hX] at g1
        have bX : Below w.heap.size w X := by rw [hX]; exact (hb3.setCell (p := ⟨R, 0, none⟩) (by show _ ≤ R; have := HPR.out; omega) _).setCell (p := ⟨R, 1, none⟩) (by show _ ≤ R; have := HPR.out; omega) _
        have gX := g1
        have HX9 : Hid (X = (w3.setCell ⟨R, 0, none⟩ (.slice none 0 0)).setCell ⟨R, 1, none⟩ (.slice none 0 0)) := hX
        have HX0 : Aside (X.cell? ⟨R, 0, none⟩ = some (.slice none 0 0)) := by unfold Aside; rw [cell_of_row _ _ _ _ _ _ gX]; rfl
        have HX1 : Aside (X.cell? ⟨R, 1, none⟩ = some (.slice none 0 0)) := by unfold Aside; rw [cell_of_row _ _ _ _ _ _ gX]; rfl
        have x0 : w3.cell? ⟨R, 0, none⟩ = some (.slice none 0 0) := by rw [cell_of_row _ _ _ _ _ _ r3]; rfl
        have x1 : w3.cell? ⟨R, 1, none⟩ = some (.slice none 0 0) := by rw [cell_of_row _ _ _ _ _ _ r3]; rfl
        have f0 : w3.frozen? ⟨R, 0, none⟩ = false := frozen_of_row _ _ _ _ _ r3
        have f1 : w3.frozen? ⟨R, 1, none⟩ = false := frozen_of_row _ _ _ _ _ r3
        clear g1 g2 g3 hX gX r3
        go_wp2
        rw [← HX9.out]
        have y0 := HX0.out
        have y1 := HX1.out
        refine bodyPost_ret (v := .tuple #[.agg #[.slice none 0 0, .slice none 0 0], .int .i64 6]) (by simp [results, Tryz.results51, go_sem, y0, y1]) rfl ?_
        refine ⟨_, ret_two' E.out.symm, ?_, bX⟩
        rw [EC.out.1, EC.out.2]; exact RepoOwn.none _ _
      · have hpn : pl < 0 := by omega
        have hpb : decide (0 ≤ pl) = false := by simp; omega
        by_cases h4 : n2 = 4
        · have E : Aside (M.brE C H s t = 2) := (M.brE_at HZ0.out).2.2.1 HT.out.symm (by rw [← HPl.out]; exact hpn) (by rw [HNH.out]; exact h4)
          have h4b : ((n2 : Int) == 4) = true := by simp [h4]
          clear h4 hp0
          have EC : Aside (M.brC C H s t = [] ∧ M.brH C H s t = []) := ⟨by unfold M.brC; rw [if_neg (by rw [E.out]; decide)], by unfold M.brH; rw [if_neg (by rw [E.out]; decide)]⟩
          obtain ⟨g1, g2, g3⟩ := res_set r3 (.slice none 0 0) (.slice none 0 0)
          obtain ⟨X, hX⟩ : ∃ X, X = (w3.setCell ⟨R, 0, none⟩ (.slice none 0 0)).setCell ⟨R, 1, none⟩ (.slice none 0 0) := ⟨_, rfl⟩
          rw [← hX] at g1
          have bX : Below w.heap.size w X := by rw [hX]; exact (hb3.setCell (p := ⟨R, 0, none⟩) (by show _ ≤ R; have := HPR.out; omega) _).setCell (p := ⟨R, 1, none⟩) (by show _ ≤ R; have := HPR.out; omega) _
          have gX := g1
          have HX9 : Hid (X = (w3.setCell ⟨R, 0, none⟩ (.slice none 0 0)).setCell ⟨R, 1, none⟩ (.slice none 0 0)) := hX
          have HX0 : Aside (X.cell? ⟨R, 0, none⟩ = some (.slice none 0 0)) := by unfold Aside; rw [cell_of_row _ _ _ _ _ _ gX]; rfl
          have HX1 : Aside (X.cell? ⟨R, 1, none⟩ = some (.slice none 0 0)) := by unfold Aside; rw [cell_of_row _ _ _ _ _ _ gX]; rfl
          have x0 : w3.cell? ⟨R, 0, none⟩ = some (.slice none 0 0) := by rw [cell_of_row _ _ _ _ _ _ r3]; rfl
          have x1 : w3.cell? ⟨R, 1, none⟩ = some (.slice none 0 0) := by rw [cell_of_row _ _ _ _ _ _ r3]; rfl
          have f0 : w3.frozen? ⟨R, 0, none⟩ = false := frozen_of_row _ _ _ _ _ r3
          have f1 : w3.frozen? ⟨R, 1, none⟩ = false := frozen_of_row _ _ _ _ _ r3
          clear g1 g2 g3 hX gX r3
          go_wp2
          rw [← HX9.out]
          have y0 := HX0.out
          have y1 := HX1.out
          refine bodyPost_ret (v := .tuple #[.agg #[.slice none 0 0, .slice none 0 0], .int .i64 2]) (by simp [results, Tryz.results51, go_sem, y0, y1]) rfl ?_
          refine ⟨_, ret_two' E.out.symm, ?_, bX⟩
          rw [EC.out.1, EC.out.2]; exact RepoOwn.none _ _
        · have h4b : ((n2 : Int) == 4) = false := by simp; omega
          have E0 : Aside (M.brE C H s t = 0) := (M.brE_at HZ0.out).2.2.2 HT.out.symm (by rw [← HPl.out]; exact hpn) (by rw [HNH.out]; exact h4)
          have EC : Aside (M.brC C H s t = C ∧ M.brH C H s t = M.insH (s, x) H) := ⟨by unfold M.brC; rw [if_pos E0.out], by unfold M.brH; rw [if_pos E0.out, ← HX.out]⟩
          have KO : Hid (Calls Tryz.prog 17 #[.agg #[.slice a n cap, .slice a2 n2 cap2]] w3 fun e w' => ∃ v, e = .returned v ∧ RepoOwn w' w3.heap.size v C H ∧ Below w3.heap.size w3 w') := ownRepo_any a n cap C a2 n2 cap2 H w3 (HVW.out.later bW3) hr0
          have hn4 : n2 ≤ 4 := by rw [← HNH.out]; exact (M.rchk_zero hr0).2.1
          clear h4 hp0 hpn
          go_wp2_with fail
          refine KO.out.mono ?_
          rintro e w4 ⟨v, rfl, ⟨xx, yy, rfl, ok, oh⟩, b4⟩
          obtain ⟨xa, xc, rfl, _⟩ := ok.cm
          obtain ⟨ya, yc, rfl, _⟩ := oh.hs
          obtain ⟨D, hD⟩ : ∃ D, D = w4.heap.size := ⟨_, rfl⟩
          obtain ⟨m, hm⟩ : ∃ m, m = C.length := ⟨_, rfl⟩
          rw [← hm, HNH.out]
          rw [← hm] at ok
          obtain ⟨W6, hW6⟩ : ∃ W6, W6 = w4.alloc (.cells #[.slice xa m xc, .slice none 0 0] 35) := ⟨_, rfl⟩
          have bW6 : Below w4.heap.size w4 W6 := by rw [hW6]; exact (Below.refl _ _).alloc (Nat.le_refl _) _
          have hD3 : w3.heap.size ≤ D := by rw [hD]; exact b4.size
          have B6 : BAt w4 w3.heap.size D (.slice xa m xc) (.slice none 0 0) C [] W6 := ⟨by rw [hD]; exact bW6, by rw [hW6, hD]; exact heap_alloc_new _ _, ok.later bW6, OwnH.nil _ _⟩
          have HB6 : Aside (BAt w4 w3.heap.size D (.slice xa m xc) (.slice none 0 0) C [] W6) := B6
          have HW6 : Hid (W6 = w4.alloc (.cells #[.slice xa m xc, .slice none 0 0] 35)) := hW6
          have HD : Aside (D = w4.heap.size) := hD
          have hin := M.hat_in HZ0.out
          rw [← HX.out] at hin
          have HI4 : Hid (InBox w4 p a n cap C a2 n2 cap2 H) := HI.out.below (bW3.trans (b4.mono bW3.size))
          have r4 : w4.heap[R]? = some (.cells #[.slice none 0 0, .slice none 0 0] 35 (0, 0)) := (b4.block R hRl3).trans r3
          have hRD : R < D := by omega
          have hb4 : Below w.heap.size w w4 := hb3.trans (b4.mono hb3.size)
          have HWD : Hid (w.heap.size ≤ D) := by have := hb4.size; unfold Hid; omega
          have h30 : Hid (w.heap.size ≤ w3.heap.size) := hb3.size
          clear hW6 hD ok oh hm b4 bW6 B6 KO r3 f0' f1' hin
          go_wp2_with fail
          rw [← HD.out, ← HW6.out]
          go_loopg [12, 11] n2 (fun g i dn wr => ∃ (k : Nat) (d : Bool) (y : Value) (O : List M.Hd), k + g = n2 ∧ i = .int .i64 k ∧ dn = .bool d ∧ Aside (BAt w4 w3.heap.size D (.slice xa m xc) y C O wr) ∧ Aside (M.insOk (s, x) H k d O))
          case atStart => exact ⟨0, false, _, _, by omega, rfl, rfl, HB6, M.insOk_zero _ _⟩
          case round =>
            obtain ⟨k, dn, y, O, hk, rfl, rfl, HOk, HIn⟩ := hrel
            have bel4 : Below w4.heap.size w4 wr := by have := HOk.out.bel; rw [HD.out] at this; exact this
            have J := HI4.out.below bel4
            have d1 := J.c1
            have hlt := (Array.getElem?_eq_some_iff.1 HOk.out.blk).1
            by_cases hkn : k < n2
            · have hki : (k : Int) < (n2 : Int) := by omega
              obtain ⟨b, off, rfl, hB4, nk, ak, hnk, t0, t1, hns⟩ : ∃ b off, a2 = some ⟨b, off, none⟩ ∧ b < D ∧ ∃ nk ak, H.getD k M.hd0 = (nk, ak) ∧ wr.cell? ⟨b, off + k * 2, none⟩ = some (.string nk) ∧ wr.cell? ⟨b, off + k * 2 + 1, none⟩ = some (.int .i64 ak) ∧ nk.size ≤ 9223372036854775807 := by
                obtain ⟨_, h0 | ⟨b, off, e, hB, hc⟩⟩ := HI4.out.hs
                · omega
                · obtain ⟨_, h0' | ⟨b', off', e', _, hc'⟩⟩ := J.hs
                  · omega
                  · rw [e] at e'
                    cases e'
                    exact ⟨b, off, e, by rw [HD.out]; exact hB, _, _, rfl, (hc' k hkn).1, (hc' k hkn).2.1, (hc' k hkn).2.2⟩
              have HNk : Hid (H.getD k M.hd0 = (nk, ak)) := hnk
              have HNs : Hid (nk.size ≤ 9223372036854775807) := hns
              have hkH : k < H.length := by rw [HNH.out]; exact hkn
              have HKH : Hid (k < H.length) := hkH
              have HOl : Hid (O.length ≤ 5) := by have := HIn.out.2; unfold Hid; split at this <;> omega
              obtain ⟨za, zc, rfl, _⟩ := HOk.out.h.hs
              obtain ⟨zn, hzn⟩ : ∃ zn, zn = O.length := ⟨_, rfl⟩
              rw [← hzn] at HOk
              have k1 : wr.cell? ⟨D, 1, none⟩ = some (.slice za zn zc) := by rw [cell_of_row _ _ _ _ _ _ HOk.out.blk]; rfl
              have HZn : Aside (zn = O.length) := hzn
              clear hzn hns hnk hkH J
              cases dn with
              | true =>
                clear t0 t1 k1
                have hlwr := (Array.getElem?_eq_some_iff.1 HOk.out.blk).1
                have belwr : Below w4.heap.size w4 wr := by have := HOk.out.bel; rw [HD.out] at this; exact this
                have HSV : Hid (∀ V, Below wr.heap.size wr V → V.cell? ⟨D, 1, none⟩ = some (.slice za zn zc) ∧ V.cell? ⟨p, 1, none⟩ = some (.slice (some ⟨b, off, none⟩) n2 cap2) ∧ V.cell? ⟨b, off + k * 2, none⟩ = some (.string nk) ∧ V.cell? ⟨b, off + k * 2 + 1, none⟩ = some (.int .i64 ak)) := fun V hV => by
                  have q := belwr.trans (hV.mono belwr.size)
                  have j := HI4.out.below q
                  obtain ⟨_, h0 | ⟨b', off', e', _, hc'⟩⟩ := j.hs
                  · omega
                  · cases e'
                    have hk' := hc' k hkn
                    rw [HNk.out] at hk'
                    exact ⟨by rw [World.cell?_of_block (a := ⟨D, 1, none⟩) (hV.block D hlwr), cell_of_row _ _ _ _ _ _ HOk.out.blk]; rfl, j.c1, hk'.1, hk'.2.1⟩
                have HBd : Hid (Below wr.heap.size wr wr.drew) := (Below.refl _ _).drew
                have hDw : D ≤ wr.heap.size := Nat.le_of_lt hlwr
                have HOn : Hid (((O) : List M.Hd).length = zn) := by obtain ⟨_, _, e, _⟩ := HOk.out.h.hs; simp only [Value.slice.injEq] at e; exact e.2.1.symm
                have hO9 : zn ≤ 9 := by have h1 := HOl.out; have h2 := HOn.out; first | omega | (simp only [List.length_append, List.length_cons, List.length_nil] at h2; omega)
                go_wp2_with fail
                refine wp_region_till 10 (fun V => V.cell? ⟨D, 1, none⟩ = some (.slice za zn zc) ∧ V.cell? ⟨p, 1, none⟩ = some (.slice (some ⟨b, off, none⟩) n2 cap2) ∧ V.cell? ⟨b, off + k * 2, none⟩ = some (.string nk) ∧ V.cell? ⟨b, off + k * 2 + 1, none⟩ = some (.int .i64 ak)) (by kernel_rfl) (HSV.out _ HBd.out) (fun hHeld => ?_)
                refine till_go 0 (v := .pointer (some ⟨D, 1, none⟩)) rfl (by decide) (by kernel_rfl) (by kernel_rfl) (by kernel_rfl) (fun _ _ _ h => h) (Or.inl ⟨by rfl, fun V _ => (by go_simp)⟩) hHeld ?_
                try simp only [Act.put]
                refine till_take 1 (v := .slice za zn zc) rfl (by decide) (by kernel_rfl) (by kernel_rfl) (by kernel_rfl) (by kernel_rfl) (by kernel_rfl) (fun _ _ _ h => h) (Or.inl ⟨by rfl, fun V hV => (by obtain ⟨v0, v1, v2, v3⟩ := hV; go_simp)⟩) hHeld ?_
                try simp only [Act.put]
                refine till_go 2 (v := .pointer (some ⟨p, 1, none⟩)) rfl (by decide) (by kernel_rfl) (by kernel_rfl) (by kernel_rfl) (fun _ _ _ h => h) (Or.inl ⟨by rfl, fun V _ => (by go_simp)⟩) hHeld ?_
                try simp only [Act.put]
                refine till_take 3 (v := .slice (some ⟨b, off, none⟩) n2 cap2) rfl (by decide) (by kernel_rfl) (by kernel_rfl) (by kernel_rfl) (by kernel_rfl) (by kernel_rfl) (fun _ _ _ h => h) (Or.inl ⟨by rfl, fun V hV => (by obtain ⟨v0, v1, v2, v3⟩ := hV; go_simp)⟩) hHeld ?_
                try simp only [Act.put]
                refine till_go 4 (v := .int .i64 (k : Int)) rfl (by decide) (by kernel_rfl) (by kernel_rfl) (by kernel_rfl) (fun _ _ _ h => h) (Or.inl ⟨by rfl, fun V _ => (by go_simp)⟩) hHeld ?_
                try simp only [Act.put]
                refine till_go 5 (v := .pointer (some ⟨b, off + k * 2, none⟩)) rfl (by decide) (by kernel_rfl) (by kernel_rfl) (by kernel_rfl) (fun _ _ _ h => h) (Or.inl ⟨by rfl, fun V _ => (by go_simp)⟩) hHeld ?_
                try simp only [Act.put]
                refine till_take 6 (v := .agg #[.string nk, .int .i64 ak]) rfl (by decide) (by kernel_rfl) (by kernel_rfl) (by kernel_rfl) (by kernel_rfl) (by kernel_rfl) (fun _ _ _ h => h) (Or.inl ⟨by rfl, fun V hV => (by obtain ⟨v0, v1, v2, v3⟩ := hV; go_simp)⟩) hHeld ?_
                try simp only [Act.put]
                refine till_step 7 rfl (by decide) (by kernel_rfl) (fun K hK => ?_)
                go_simp
                have pb7 : Below wr.heap.size wr (wr.alloc (.cells #[.string nk, .int .i64 ak] 58)).drew := ((Below.refl _ _).alloc (Nat.le_refl _) _).drew
                refine hK.out _ _ (HSV.out _ pb7) (fun hHeld => ?_)
                clear hK K
                refine till_step 8 rfl (by decide) (by kernel_rfl) (fun K hK => ?_)
                refine step_heads rfl _ _ rfl D _ (O) rfl (HOk.out.h.later pb7) (some ⟨wr.heap.size, 0, none⟩) 1 1 [(nk, ak)] rfl ((head_new wr nk ak HNs.out).below ((Below.refl _ _).drew) (Nat.le_refl _)) (fun h => by simp at h) (by rw [HOn.out]; omega) (Nat.le_trans hDw pb7.size) ?_
                intro v8 w8 o8 g8
                obtain ⟨qa, qc, rfl, _⟩ := o8.hs
                obtain ⟨qn, hqn⟩ : ∃ qn, qn = ((O) ++ [(nk, ak)]).length := ⟨_, rfl⟩
                rw [← hqn] at o8 ⊢
                obtain ⟨P1, P2⟩ := HOk.out.put (q := (nk, ak)) (y' := .slice qa qn qc) (.cells #[.string nk, .int .i64 ak] 58) o8 ⟨g8.os, g8.tape, g8.output, g8.size, fun k hk hne => g8.block k hk hne⟩
                have k8 : w8.cell? ⟨D, 1, none⟩ = some (.slice za zn zc) := by rw [cell_of_row _ _ _ _ _ _ P2]; rfl
                have f8 : w8.frozen? ⟨D, 1, none⟩ = false := frozen_of_row _ _ _ _ _ P2
                have pb8 : Below D wr w8 := ((Below.refl _ _).alloc hDw _).drew.trans (below_grown g8 (fun k e => (World.ownsRow.lt HOk.out.h.1 k e).1) (by simp; omega))
                have hA8 : Hid (w8.cell? ⟨D, 1, none⟩ = some (.slice za zn zc) ∧ w8.cell? ⟨p, 1, none⟩ = some (.slice (some ⟨b, off, none⟩) n2 cap2) ∧ w8.cell? ⟨b, off + k * 2, none⟩ = some (.string nk) ∧ w8.cell? ⟨b, off + k * 2 + 1, none⟩ = some (.int .i64 ak)) := by
                  have q := HSV.out _ (Below.refl _ _)
                  have hbD : b < D := hB4
                  exact ⟨k8, (pb8.cell (p := ⟨p, 1, none⟩) (by show p < D; omega)).trans q.2.1, (pb8.cell (p := ⟨b, off + k * 2, none⟩) hbD).trans q.2.2.1, (pb8.cell (p := ⟨b, off + k * 2 + 1, none⟩) hbD).trans q.2.2.2⟩
                have HE8 : Aside (BAt w4 w3.heap.size D (.slice xa m xc) (.slice qa qn qc) C ((O) ++ [(nk, ak)]) (w8.setCell ⟨D, 1, none⟩ (.slice qa qn qc))) := P1
                have HIn8 : Aside (M.insOk (s, x) H (k + 1) true ((O) ++ [(nk, ak)])) := by have := M.insOk_by HIn.out HKH.out (fun h => by cases h); rw [HNk.out] at this; exact this
                clear P1 P2 o8 g8 pb7 pb8 hqn
                refine hK.out _ _ hA8.out (fun hHeld => ?_)
                clear hK K
                refine till_go 9 (v := .pointer (some ⟨D, 1, none⟩)) rfl (by decide) (by kernel_rfl) (by kernel_rfl) (by kernel_rfl) (fun _ _ _ h => h) (Or.inl ⟨by rfl, fun V _ => (by go_simp)⟩) hHeld ?_
                try simp only [Act.put]
                refine till_last rfl (by kernel_rfl) (by kernel_rfl) (fun K hK => ?_) _
                go_simp
                refine hK.out _ _ ?_
                clear hK K
                clear hA8 HSV HBd
                go_wp2
                go_roundg (gk - 1)
                case measure => omega
                case rel => exact ⟨k + 1, true, _, _, by omega, by go_num, rfl, HE8, HIn8⟩
              | false =>
                cases ht1 : Op.bytesLess nk.toList s.toList with
                | true =>
                  have HLe : Hid (M.less (s, x).1 (H.getD k M.hd0).1 = false) := by unfold Hid; rw [HNk.out]; have := M.leq_not nk s; rw [ht1] at this; simpa using this.symm
                  clear t1 k1
                  have hlwr := (Array.getElem?_eq_some_iff.1 HOk.out.blk).1
                  have belwr : Below w4.heap.size w4 wr := by have := HOk.out.bel; rw [HD.out] at this; exact this
                  have HSV : Hid (∀ V, Below wr.heap.size wr V → V.cell? ⟨D, 1, none⟩ = some (.slice za zn zc) ∧ V.cell? ⟨p, 1, none⟩ = some (.slice (some ⟨b, off, none⟩) n2 cap2) ∧ V.cell? ⟨b, off + k * 2, none⟩ = some (.string nk) ∧ V.cell? ⟨b, off + k * 2 + 1, none⟩ = some (.int .i64 ak)) := fun V hV => by
                    have q := belwr.trans (hV.mono belwr.size)
                    have j := HI4.out.below q
                    obtain ⟨_, h0 | ⟨b', off', e', _, hc'⟩⟩ := j.hs
                    · omega
                    · cases e'
                      have hk' := hc' k hkn
                      rw [HNk.out] at hk'
                      exact ⟨by rw [World.cell?_of_block (a := ⟨D, 1, none⟩) (hV.block D hlwr), cell_of_row _ _ _ _ _ _ HOk.out.blk]; rfl, j.c1, hk'.1, hk'.2.1⟩
                  have HBd : Hid (Below wr.heap.size wr wr.drew) := (Below.refl _ _).drew
                  have hDw : D ≤ wr.heap.size := Nat.le_of_lt hlwr
                  have HOn : Hid (((O) : List M.Hd).length = zn) := by obtain ⟨_, _, e, _⟩ := HOk.out.h.hs; simp only [Value.slice.injEq] at e; exact e.2.1.symm
                  have hO9 : zn ≤ 9 := by have h1 := HOl.out; have h2 := HOn.out; first | omega | (simp only [List.length_append, List.length_cons, List.length_nil] at h2; omega)
                  go_wp2_with fail
                  refine wp_region_till 10 (fun V => V.cell? ⟨D, 1, none⟩ = some (.slice za zn zc) ∧ V.cell? ⟨p, 1, none⟩ = some (.slice (some ⟨b, off, none⟩) n2 cap2) ∧ V.cell? ⟨b, off + k * 2, none⟩ = some (.string nk) ∧ V.cell? ⟨b, off + k * 2 + 1, none⟩ = some (.int .i64 ak)) (by kernel_rfl) (HSV.out _ HBd.out) (fun hHeld => ?_)
                  refine till_go 0 (v := .pointer (some ⟨D, 1, none⟩)) rfl (by decide) (by kernel_rfl) (by kernel_rfl) (by kernel_rfl) (fun _ _ _ h => h) (Or.inl ⟨by rfl, fun V _ => (by go_simp)⟩) hHeld ?_
                  try simp only [Act.put]
                  refine till_take 1 (v := .slice za zn zc) rfl (by decide) (by kernel_rfl) (by kernel_rfl) (by kernel_rfl) (by kernel_rfl) (by kernel_rfl) (fun _ _ _ h => h) (Or.inl ⟨by rfl, fun V hV => (by obtain ⟨v0, v1, v2, v3⟩ := hV; go_simp)⟩) hHeld ?_
                  try simp only [Act.put]
                  refine till_go 2 (v := .pointer (some ⟨p, 1, none⟩)) rfl (by decide) (by kernel_rfl) (by kernel_rfl) (by kernel_rfl) (fun _ _ _ h => h) (Or.inl ⟨by rfl, fun V _ => (by go_simp)⟩) hHeld ?_
                  try simp only [Act.put]
                  refine till_take 3 (v := .slice (some ⟨b, off, none⟩) n2 cap2) rfl (by decide) (by kernel_rfl) (by kernel_rfl) (by kernel_rfl) (by kernel_rfl) (by kernel_rfl) (fun _ _ _ h => h) (Or.inl ⟨by rfl, fun V hV => (by obtain ⟨v0, v1, v2, v3⟩ := hV; go_simp)⟩) hHeld ?_
                  try simp only [Act.put]
                  refine till_go 4 (v := .int .i64 (k : Int)) rfl (by decide) (by kernel_rfl) (by kernel_rfl) (by kernel_rfl) (fun _ _ _ h => h) (Or.inl ⟨by rfl, fun V _ => (by go_simp)⟩) hHeld ?_
                  try simp only [Act.put]
                  refine till_go 5 (v := .pointer (some ⟨b, off + k * 2, none⟩)) rfl (by decide) (by kernel_rfl) (by kernel_rfl) (by kernel_rfl) (fun _ _ _ h => h) (Or.inl ⟨by rfl, fun V _ => (by go_simp)⟩) hHeld ?_
                  try simp only [Act.put]
                  refine till_take 6 (v := .agg #[.string nk, .int .i64 ak]) rfl (by decide) (by kernel_rfl) (by kernel_rfl) (by kernel_rfl) (by kernel_rfl) (by kernel_rfl) (fun _ _ _ h => h) (Or.inl ⟨by rfl, fun V hV => (by obtain ⟨v0, v1, v2, v3⟩ := hV; go_simp)⟩) hHeld ?_
                  try simp only [Act.put]
                  refine till_step 7 rfl (by decide) (by kernel_rfl) (fun K hK => ?_)
                  go_simp
                  have pb7 : Below wr.heap.size wr (wr.alloc (.cells #[.string nk, .int .i64 ak] 58)).drew := ((Below.refl _ _).alloc (Nat.le_refl _) _).drew
                  refine hK.out _ _ (HSV.out _ pb7) (fun hHeld => ?_)
                  clear hK K
                  refine till_step 8 rfl (by decide) (by kernel_rfl) (fun K hK => ?_)
                  refine step_heads rfl _ _ rfl D _ (O) rfl (HOk.out.h.later pb7) (some ⟨wr.heap.size, 0, none⟩) 1 1 [(nk, ak)] rfl ((head_new wr nk ak HNs.out).below ((Below.refl _ _).drew) (Nat.le_refl _)) (fun h => by simp at h) (by rw [HOn.out]; omega) (Nat.le_trans hDw pb7.size) ?_
                  intro v8 w8 o8 g8
                  obtain ⟨qa, qc, rfl, _⟩ := o8.hs
                  obtain ⟨qn, hqn⟩ : ∃ qn, qn = ((O) ++ [(nk, ak)]).length := ⟨_, rfl⟩
                  rw [← hqn] at o8 ⊢
                  obtain ⟨P1, P2⟩ := HOk.out.put (q := (nk, ak)) (y' := .slice qa qn qc) (.cells #[.string nk, .int .i64 ak] 58) o8 ⟨g8.os, g8.tape, g8.output, g8.size, fun k hk hne => g8.block k hk hne⟩
                  have k8 : w8.cell? ⟨D, 1, none⟩ = some (.slice za zn zc) := by rw [cell_of_row _ _ _ _ _ _ P2]; rfl
                  have f8 : w8.frozen? ⟨D, 1, none⟩ = false := frozen_of_row _ _ _ _ _ P2
                  have pb8 : Below D wr w8 := ((Below.refl _ _).alloc hDw _).drew.trans (below_grown g8 (fun k e => (World.ownsRow.lt HOk.out.h.1 k e).1) (by simp; omega))
                  have hA8 : Hid (w8.cell? ⟨D, 1, none⟩ = some (.slice za zn zc) ∧ w8.cell? ⟨p, 1, none⟩ = some (.slice (some ⟨b, off, none⟩) n2 cap2) ∧ w8.cell? ⟨b, off + k * 2, none⟩ = some (.string nk) ∧ w8.cell? ⟨b, off + k * 2 + 1, none⟩ = some (.int .i64 ak)) := by
                    have q := HSV.out _ (Below.refl _ _)
                    have hbD : b < D := hB4
                    exact ⟨k8, (pb8.cell (p := ⟨p, 1, none⟩) (by show p < D; omega)).trans q.2.1, (pb8.cell (p := ⟨b, off + k * 2, none⟩) hbD).trans q.2.2.1, (pb8.cell (p := ⟨b, off + k * 2 + 1, none⟩) hbD).trans q.2.2.2⟩
                  have HE8 : Aside (BAt w4 w3.heap.size D (.slice xa m xc) (.slice qa qn qc) C ((O) ++ [(nk, ak)]) (w8.setCell ⟨D, 1, none⟩ (.slice qa qn qc))) := P1
                  have HIn8 : Aside (M.insOk (s, x) H (k + 1) false ((O) ++ [(nk, ak)])) := by have := M.insOk_by HIn.out HKH.out (fun _ => HLe.out); rw [HNk.out] at this; exact this
                  clear P1 P2 o8 g8 pb7 pb8 hqn
                  refine hK.out _ _ hA8.out (fun hHeld => ?_)
                  clear hK K
                  refine till_go 9 (v := .pointer (some ⟨D, 1, none⟩)) rfl (by decide) (by kernel_rfl) (by kernel_rfl) (by kernel_rfl) (fun _ _ _ h => h) (Or.inl ⟨by rfl, fun V _ => (by go_simp)⟩) hHeld ?_
                  try simp only [Act.put]
                  refine till_last rfl (by kernel_rfl) (by kernel_rfl) (fun K hK => ?_) _
                  go_simp
                  refine hK.out _ _ ?_
                  clear hK K
                  clear hA8 HSV HBd
                  go_wp2
                  go_roundg (gk - 1)
                  case measure => omega
                  case rel => exact ⟨k + 1, false, _, _, by omega, by go_num, rfl, HE8, HIn8⟩
                | false =>
                  cases ht2 : nk.toList == s.toList with
                  | true =>
                      have HLe : Hid (M.less (s, x).1 (H.getD k M.hd0).1 = false) := by unfold Hid; rw [HNk.out]; have := M.leq_not nk s; rw [ht1, ht2] at this; simpa using this.symm
                      clear t1 k1
                      have hlwr := (Array.getElem?_eq_some_iff.1 HOk.out.blk).1
                      have belwr : Below w4.heap.size w4 wr := by have := HOk.out.bel; rw [HD.out] at this; exact this
                      have HSV : Hid (∀ V, Below wr.heap.size wr V → V.cell? ⟨D, 1, none⟩ = some (.slice za zn zc) ∧ V.cell? ⟨p, 1, none⟩ = some (.slice (some ⟨b, off, none⟩) n2 cap2) ∧ V.cell? ⟨b, off + k * 2, none⟩ = some (.string nk) ∧ V.cell? ⟨b, off + k * 2 + 1, none⟩ = some (.int .i64 ak)) := fun V hV => by
                        have q := belwr.trans (hV.mono belwr.size)
                        have j := HI4.out.below q
                        obtain ⟨_, h0 | ⟨b', off', e', _, hc'⟩⟩ := j.hs
                        · omega
                        · cases e'
                          have hk' := hc' k hkn
                          rw [HNk.out] at hk'
                          exact ⟨by rw [World.cell?_of_block (a := ⟨D, 1, none⟩) (hV.block D hlwr), cell_of_row _ _ _ _ _ _ HOk.out.blk]; rfl, j.c1, hk'.1, hk'.2.1⟩
                      have HBd : Hid (Below wr.heap.size wr wr.drew) := (Below.refl _ _).drew
                      have hDw : D ≤ wr.heap.size := Nat.le_of_lt hlwr
                      have HOn : Hid (((O) : List M.Hd).length = zn) := by obtain ⟨_, _, e, _⟩ := HOk.out.h.hs; simp only [Value.slice.injEq] at e; exact e.2.1.symm
                      have hO9 : zn ≤ 9 := by have h1 := HOl.out; have h2 := HOn.out; first | omega | (simp only [List.length_append, List.length_cons, List.length_nil] at h2; omega)
                      go_wp2_with fail
                      refine wp_region_till 10 (fun V => V.cell? ⟨D, 1, none⟩ = some (.slice za zn zc) ∧ V.cell? ⟨p, 1, none⟩ = some (.slice (some ⟨b, off, none⟩) n2 cap2) ∧ V.cell? ⟨b, off + k * 2, none⟩ = some (.string nk) ∧ V.cell? ⟨b, off + k * 2 + 1, none⟩ = some (.int .i64 ak)) (by kernel_rfl) (HSV.out _ HBd.out) (fun hHeld => ?_)
                      refine till_go 0 (v := .pointer (some ⟨D, 1, none⟩)) rfl (by decide) (by kernel_rfl) (by kernel_rfl) (by kernel_rfl) (fun _ _ _ h => h) (Or.inl ⟨by rfl, fun V _ => (by go_simp)⟩) hHeld ?_
                      try simp only [Act.put]
                      refine till_take 1 (v := .slice za zn zc) rfl (by decide) (by kernel_rfl) (by kernel_rfl) (by kernel_rfl) (by kernel_rfl) (by kernel_rfl) (fun _ _ _ h => h) (Or.inl ⟨by rfl, fun V hV => (by obtain ⟨v0, v1, v2, v3⟩ := hV; go_simp)⟩) hHeld ?_
                      try simp only [Act.put]
                      refine till_go 2 (v := .pointer (some ⟨p, 1, none⟩)) rfl (by decide) (by kernel_rfl) (by kernel_rfl) (by kernel_rfl) (fun _ _ _ h => h) (Or.inl ⟨by rfl, fun V _ => (by go_simp)⟩) hHeld ?_
                      try simp only [Act.put]
                      refine till_take 3 (v := .slice (some ⟨b, off, none⟩) n2 cap2) rfl (by decide) (by kernel_rfl) (by kernel_rfl) (by kernel_rfl) (by kernel_rfl) (by kernel_rfl) (fun _ _ _ h => h) (Or.inl ⟨by rfl, fun V hV => (by obtain ⟨v0, v1, v2, v3⟩ := hV; go_simp)⟩) hHeld ?_
                      try simp only [Act.put]
                      refine till_go 4 (v := .int .i64 (k : Int)) rfl (by decide) (by kernel_rfl) (by kernel_rfl) (by kernel_rfl) (fun _ _ _ h => h) (Or.inl ⟨by rfl, fun V _ => (by go_simp)⟩) hHeld ?_
                      try simp only [Act.put]
                      refine till_go 5 (v := .pointer (some ⟨b, off + k * 2, none⟩)) rfl (by decide) (by kernel_rfl) (by kernel_rfl) (by kernel_rfl) (fun _ _ _ h => h) (Or.inl ⟨by rfl, fun V _ => (by go_simp)⟩) hHeld ?_
                      try simp only [Act.put]
                      refine till_take 6 (v := .agg #[.string nk, .int .i64 ak]) rfl (by decide) (by kernel_rfl) (by kernel_rfl) (by kernel_rfl) (by kernel_rfl) (by kernel_rfl) (fun _ _ _ h => h) (Or.inl ⟨by rfl, fun V hV => (by obtain ⟨v0, v1, v2, v3⟩ := hV; go_simp)⟩) hHeld ?_
                      try simp only [Act.put]
                      refine till_step 7 rfl (by decide) (by kernel_rfl) (fun K hK => ?_)
                      go_simp
                      have pb7 : Below wr.heap.size wr (wr.alloc (.cells #[.string nk, .int .i64 ak] 58)).drew := ((Below.refl _ _).alloc (Nat.le_refl _) _).drew
                      refine hK.out _ _ (HSV.out _ pb7) (fun hHeld => ?_)
                      clear hK K
                      refine till_step 8 rfl (by decide) (by kernel_rfl) (fun K hK => ?_)
                      refine step_heads rfl _ _ rfl D _ (O) rfl (HOk.out.h.later pb7) (some ⟨wr.heap.size, 0, none⟩) 1 1 [(nk, ak)] rfl ((head_new wr nk ak HNs.out).below ((Below.refl _ _).drew) (Nat.le_refl _)) (fun h => by simp at h) (by rw [HOn.out]; omega) (Nat.le_trans hDw pb7.size) ?_
                      intro v8 w8 o8 g8
                      obtain ⟨qa, qc, rfl, _⟩ := o8.hs
                      obtain ⟨qn, hqn⟩ : ∃ qn, qn = ((O) ++ [(nk, ak)]).length := ⟨_, rfl⟩
                      rw [← hqn] at o8 ⊢
                      obtain ⟨P1, P2⟩ := HOk.out.put (q := (nk, ak)) (y' := .slice qa qn qc) (.cells #[.string nk, .int .i64 ak] 58) o8 ⟨g8.os, g8.tape, g8.output, g8.size, fun k hk hne => g8.block k hk hne⟩
                      have k8 : w8.cell? ⟨D, 1, none⟩ = some (.slice za zn zc) := by rw [cell_of_row _ _ _ _ _ _ P2]; rfl
                      have f8 : w8.frozen? ⟨D, 1, none⟩ = false := frozen_of_row _ _ _ _ _ P2
                      have pb8 : Below D wr w8 := ((Below.refl _ _).alloc hDw _).drew.trans (below_grown g8 (fun k e => (World.ownsRow.lt HOk.out.h.1 k e).1) (by simp; omega))
                      have hA8 : Hid (w8.cell? ⟨D, 1, none⟩ = some (.slice za zn zc) ∧ w8.cell? ⟨p, 1, none⟩ = some (.slice (some ⟨b, off, none⟩) n2 cap2) ∧ w8.cell? ⟨b, off + k * 2, none⟩ = some (.string nk) ∧ w8.cell? ⟨b, off + k * 2 + 1, none⟩ = some (.int .i64 ak)) := by
                        have q := HSV.out _ (Below.refl _ _)
                        have hbD : b < D := hB4
                        exact ⟨k8, (pb8.cell (p := ⟨p, 1, none⟩) (by show p < D; omega)).trans q.2.1, (pb8.cell (p := ⟨b, off + k * 2, none⟩) hbD).trans q.2.2.1, (pb8.cell (p := ⟨b, off + k * 2 + 1, none⟩) hbD).trans q.2.2.2⟩
                      have HE8 : Aside (BAt w4 w3.heap.size D (.slice xa m xc) (.slice qa qn qc) C ((O) ++ [(nk, ak)]) (w8.setCell ⟨D, 1, none⟩ (.slice qa qn qc))) := P1
                      have HIn8 : Aside (M.insOk (s, x) H (k + 1) false ((O) ++ [(nk, ak)])) := by have := M.insOk_by HIn.out HKH.out (fun _ => HLe.out); rw [HNk.out] at this; exact this
                      clear P1 P2 o8 g8 pb7 pb8 hqn
                      refine hK.out _ _ hA8.out (fun hHeld => ?_)
                      clear hK K
                      refine till_go 9 (v := .pointer (some ⟨D, 1, none⟩)) rfl (by decide) (by kernel_rfl) (by kernel_rfl) (by kernel_rfl) (fun _ _ _ h => h) (Or.inl ⟨by rfl, fun V _ => (by go_simp)⟩) hHeld ?_
                      try simp only [Act.put]
                      refine till_last rfl (by kernel_rfl) (by kernel_rfl) (fun K hK => ?_) _
                      go_simp
                      refine hK.out _ _ ?_
                      clear hK K
                      clear hA8 HSV HBd
                      go_wp2
                      go_roundg (gk - 1)
                      case measure => omega
                      case rel => exact ⟨k + 1, false, _, _, by omega, by go_num, rfl, HE8, HIn8⟩
                  | false =>
                      have HLe : Hid (M.less (s, x).1 (H.getD k M.hd0).1 = true) := by unfold Hid; rw [HNk.out]; have := M.leq_not nk s; rw [ht1, ht2] at this; simpa using this.symm
                      have HOA : Hid (OwnH (wr.alloc (.cells #[.string s, .int .i64 x] 58)) D (.slice za zn zc) O) := HOk.out.h.later ((Below.refl _ _).alloc (Nat.le_refl _) _)
                      have HHN : Hid (Hs (wr.alloc (.cells #[.string s, .int .i64 x] 58)) (some ⟨wr.heap.size, 0, none⟩) 1 [(s, x)]) := head_new wr s x hss
                      have hzn5 : O.length + 1 ≤ 1000000 := by have := HOl.out; omega
                      have hDa : D ≤ (wr.alloc (.cells #[.string s, .int .i64 x] 58)).heap.size := by simp; omega
                      clear t1
                      go_wp2_with (at_builtin; refine wpl_heads rfl _ _ rfl D _ O rfl HOA.out (some ⟨wr.heap.size, 0, none⟩) 1 1 [(s, x)] rfl HHN.out (fun h => by simp at h) hzn5 hDa ?_)
                      intro v7 w7 o7 g7
                      obtain ⟨ra7, rc7, rfl, _⟩ := o7.hs
                      obtain ⟨rn7, hrn7⟩ : ∃ rn, rn = (O ++ [(s, x)]).length := ⟨_, rfl⟩
                      rw [← hrn7] at o7 ⊢
                      obtain ⟨P1, P2⟩ := HOk.out.put (q := (s, x)) (y' := .slice ra7 rn7 rc7) _ o7 g7
                      have k7 : w7.cell? ⟨D, 1, none⟩ = some (.slice za zn zc) := by rw [cell_of_row _ _ _ _ _ _ P2]; rfl
                      have f7 : w7.frozen? ⟨D, 1, none⟩ = false := frozen_of_row _ _ _ _ _ P2
                      obtain ⟨W8, hW8⟩ : ∃ W8, W8 = w7.setCell ⟨D, 1, none⟩ (.slice ra7 rn7 rc7) := ⟨_, rfl⟩
                      rw [← hW8] at P1
                      have HO8 : Aside (BAt w4 w3.heap.size D (.slice xa m xc) (.slice ra7 rn7 rc7) C (O ++ [(s, x)]) W8) := P1
                      have HW8 : Hid (W8 = w7.setCell ⟨D, 1, none⟩ (.slice ra7 rn7 rc7)) := hW8
                      clear hW8 P1 P2 o7 g7 hrn7 k1 t0 HOA HHN
                      go_wp2_with fail
                      rw [← HW8.out]
                      clear k7 f7
                      have hlW8 := (Array.getElem?_eq_some_iff.1 HO8.out.blk).1
                      have belW8 : Below w4.heap.size w4 W8 := by have := HO8.out.bel; rw [HD.out] at this; exact this
                      have HSV : Hid (∀ V, Below W8.heap.size W8 V → V.cell? ⟨D, 1, none⟩ = some (.slice ra7 rn7 rc7) ∧ V.cell? ⟨p, 1, none⟩ = some (.slice (some ⟨b, off, none⟩) n2 cap2) ∧ V.cell? ⟨b, off + k * 2, none⟩ = some (.string nk) ∧ V.cell? ⟨b, off + k * 2 + 1, none⟩ = some (.int .i64 ak)) := fun V hV => by
                        have q := belW8.trans (hV.mono belW8.size)
                        have j := HI4.out.below q
                        obtain ⟨_, h0 | ⟨b', off', e', _, hc'⟩⟩ := j.hs
                        · omega
                        · cases e'
                          have hk' := hc' k hkn
                          rw [HNk.out] at hk'
                          exact ⟨by rw [World.cell?_of_block (a := ⟨D, 1, none⟩) (hV.block D hlW8), cell_of_row _ _ _ _ _ _ HO8.out.blk]; rfl, j.c1, hk'.1, hk'.2.1⟩
                      have HBd : Hid (Below W8.heap.size W8 W8.drew) := (Below.refl _ _).drew
                      have hDw : D ≤ W8.heap.size := Nat.le_of_lt hlW8
                      have HOn : Hid (((O ++ [(s, x)]) : List M.Hd).length = rn7) := by obtain ⟨_, _, e, _⟩ := HO8.out.h.hs; simp only [Value.slice.injEq] at e; exact e.2.1.symm
                      have hO9 : rn7 ≤ 9 := by have h1 := HOl.out; have h2 := HOn.out; first | omega | (simp only [List.length_append, List.length_cons, List.length_nil] at h2; omega)
                      go_wp2_with fail
                      refine wp_region_till 10 (fun V => V.cell? ⟨D, 1, none⟩ = some (.slice ra7 rn7 rc7) ∧ V.cell? ⟨p, 1, none⟩ = some (.slice (some ⟨b, off, none⟩) n2 cap2) ∧ V.cell? ⟨b, off + k * 2, none⟩ = some (.string nk) ∧ V.cell? ⟨b, off + k * 2 + 1, none⟩ = some (.int .i64 ak)) (by kernel_rfl) (HSV.out _ HBd.out) (fun hHeld => ?_)
                      refine till_go 0 (v := .pointer (some ⟨D, 1, none⟩)) rfl (by decide) (by kernel_rfl) (by kernel_rfl) (by kernel_rfl) (fun _ _ _ h => h) (Or.inl ⟨by rfl, fun V _ => (by go_simp)⟩) hHeld ?_
                      try simp only [Act.put]
                      refine till_take 1 (v := .slice ra7 rn7 rc7) rfl (by decide) (by kernel_rfl) (by kernel_rfl) (by kernel_rfl) (by kernel_rfl) (by kernel_rfl) (fun _ _ _ h => h) (Or.inl ⟨by rfl, fun V hV => (by obtain ⟨v0, v1, v2, v3⟩ := hV; go_simp)⟩) hHeld ?_
                      try simp only [Act.put]
                      refine till_go 2 (v := .pointer (some ⟨p, 1, none⟩)) rfl (by decide) (by kernel_rfl) (by kernel_rfl) (by kernel_rfl) (fun _ _ _ h => h) (Or.inl ⟨by rfl, fun V _ => (by go_simp)⟩) hHeld ?_
                      try simp only [Act.put]
                      refine till_take 3 (v := .slice (some ⟨b, off, none⟩) n2 cap2) rfl (by decide) (by kernel_rfl) (by kernel_rfl) (by kernel_rfl) (by kernel_rfl) (by kernel_rfl) (fun _ _ _ h => h) (Or.inl ⟨by rfl, fun V hV => (by obtain ⟨v0, v1, v2, v3⟩ := hV; go_simp)⟩) hHeld ?_
                      try simp only [Act.put]
                      refine till_go 4 (v := .int .i64 (k : Int)) rfl (by decide) (by kernel_rfl) (by kernel_rfl) (by kernel_rfl) (fun _ _ _ h => h) (Or.inl ⟨by rfl, fun V _ => (by go_simp)⟩) hHeld ?_
                      try simp only [Act.put]
                      refine till_go 5 (v := .pointer (some ⟨b, off + k * 2, none⟩)) rfl (by decide) (by kernel_rfl) (by kernel_rfl) (by kernel_rfl) (fun _ _ _ h => h) (Or.inl ⟨by rfl, fun V _ => (by go_simp)⟩) hHeld ?_
                      try simp only [Act.put]
                      refine till_take 6 (v := .agg #[.string nk, .int .i64 ak]) rfl (by decide) (by kernel_rfl) (by kernel_rfl) (by kernel_rfl) (by kernel_rfl) (by kernel_rfl) (fun _ _ _ h => h) (Or.inl ⟨by rfl, fun V hV => (by obtain ⟨v0, v1, v2, v3⟩ := hV; go_simp)⟩) hHeld ?_
                      try simp only [Act.put]
                      refine till_step 7 rfl (by decide) (by kernel_rfl) (fun K hK => ?_)
                      go_simp
                      have pb7 : Below W8.heap.size W8 (W8.alloc (.cells #[.string nk, .int .i64 ak] 58)).drew := ((Below.refl _ _).alloc (Nat.le_refl _) _).drew
                      refine hK.out _ _ (HSV.out _ pb7) (fun hHeld => ?_)
                      clear hK K
                      refine till_step 8 rfl (by decide) (by kernel_rfl) (fun K hK => ?_)
                      refine step_heads rfl _ _ rfl D _ (O ++ [(s, x)]) rfl (HO8.out.h.later pb7) (some ⟨W8.heap.size, 0, none⟩) 1 1 [(nk, ak)] rfl ((head_new W8 nk ak HNs.out).below ((Below.refl _ _).drew) (Nat.le_refl _)) (fun h => by simp at h) (by rw [HOn.out]; omega) (Nat.le_trans hDw pb7.size) ?_
                      intro v8 w8 o8 g8
                      obtain ⟨qa, qc, rfl, _⟩ := o8.hs
                      obtain ⟨qn, hqn⟩ : ∃ qn, qn = ((O ++ [(s, x)]) ++ [(nk, ak)]).length := ⟨_, rfl⟩
                      rw [← hqn] at o8 ⊢
                      obtain ⟨P1, P2⟩ := HO8.out.put (q := (nk, ak)) (y' := .slice qa qn qc) (.cells #[.string nk, .int .i64 ak] 58) o8 ⟨g8.os, g8.tape, g8.output, g8.size, fun k hk hne => g8.block k hk hne⟩
                      have k8 : w8.cell? ⟨D, 1, none⟩ = some (.slice ra7 rn7 rc7) := by rw [cell_of_row _ _ _ _ _ _ P2]; rfl
                      have f8 : w8.frozen? ⟨D, 1, none⟩ = false := frozen_of_row _ _ _ _ _ P2
                      have pb8 : Below D W8 w8 := ((Below.refl _ _).alloc hDw _).drew.trans (below_grown g8 (fun k e => (World.ownsRow.lt HO8.out.h.1 k e).1) (by simp; omega))
                      have hA8 : Hid (w8.cell? ⟨D, 1, none⟩ = some (.slice ra7 rn7 rc7) ∧ w8.cell? ⟨p, 1, none⟩ = some (.slice (some ⟨b, off, none⟩) n2 cap2) ∧ w8.cell? ⟨b, off + k * 2, none⟩ = some (.string nk) ∧ w8.cell? ⟨b, off + k * 2 + 1, none⟩ = some (.int .i64 ak)) := by
                        have q := HSV.out _ (Below.refl _ _)
                        have hbD : b < D := hB4
                        exact ⟨k8, (pb8.cell (p := ⟨p, 1, none⟩) (by show p < D; omega)).trans q.2.1, (pb8.cell (p := ⟨b, off + k * 2, none⟩) hbD).trans q.2.2.1, (pb8.cell (p := ⟨b, off + k * 2 + 1, none⟩) hbD).trans q.2.2.2⟩
                      have HE8 : Aside (BAt w4 w3.heap.size D (.slice xa m xc) (.slice qa qn qc) C ((O ++ [(s, x)]) ++ [(nk, ak)]) (w8.setCell ⟨D, 1, none⟩ (.slice qa qn qc))) := P1
                      have HIn8 : Aside (M.insOk (s, x) H (k + 1) true ((O ++ [(s, x)]) ++ [(nk, ak)])) := by have := M.insOk_in HIn.out HKH.out HLe.out; rw [HNk.out] at this; exact this
                      clear P1 P2 o8 g8 pb7 pb8 hqn
                      refine hK.out _ _ hA8.out (fun hHeld => ?_)
                      clear hK K
                      refine till_go 9 (v := .pointer (some ⟨D, 1, none⟩)) rfl (by decide) (by kernel_rfl) (by kernel_rfl) (by kernel_rfl) (fun _ _ _ h => h) (Or.inl ⟨by rfl, fun V _ => (by go_simp)⟩) hHeld ?_
                      try simp only [Act.put]
                      refine till_last rfl (by kernel_rfl) (by kernel_rfl) (fun K hK => ?_) _
                      go_simp
                      refine hK.out _ _ ?_
                      clear hK K
                      clear hA8 HSV HBd
                      go_wp2
                      go_roundg (gk - 1)
                      case measure => omega
                      case rel => exact ⟨k + 1, true, _, _, by omega, by go_num, rfl, HE8, HIn8⟩
            · obtain rfl : k = n2 := by omega
              have hkk2 : decide ((k : Int) < (k : Int)) = false := by simp
              obtain ⟨za, zc, rfl, _⟩ := HOk.out.h.hs
              obtain ⟨zn, hzn⟩ : ∃ zn, zn = O.length := ⟨_, rfl⟩
              rw [← hzn] at HOk
              have hIe := HIn.out
              rw [← HNH.out] at hIe
              have HIe : Hid ((if dn = true then O else O ++ [(s, x)]) = M.insH (s, x) H) := M.insOk_end hIe
              have HOl : Hid (O.length ≤ 5) := by have := HIn.out.2; unfold Hid; split at this <;> omega
              clear hIe hzn J
              cases dn with
              | true =>
                have HEq : Hid (O = M.insH (s, x) H) := HIe.out
                have r9 : wr.heap[R]? = some (.cells #[.slice none 0 0, .slice none 0 0] 35 (0, 0)) := (HOk.out.bel.block R hRD).trans r4
                have hb9 : Below w.heap.size w wr := hb4.trans (HOk.out.bel.mono HWD.out)
                have e0' : wr.cell? ⟨D, 0, none⟩ = some (.slice xa m xc) := by rw [cell_of_row _ _ _ _ _ _ HOk.out.blk]; rfl
                have e1' : wr.cell? ⟨D, 1, none⟩ = some (.slice za zn zc) := by rw [cell_of_row _ _ _ _ _ _ HOk.out.blk]; rfl
                have HRO : Aside (RepoOwn ((wr.setCell ⟨R, 0, none⟩ (.slice xa m xc)).setCell ⟨R, 1, none⟩ (.slice za zn zc)) w.heap.size (.agg #[.slice xa m xc, .slice za zn zc]) (M.brC C H s t) (M.brH C H s t)) := by unfold Aside; rw [EC.out.1, EC.out.2, ← HEq.out]; exact (repoOwn_set r9 HOk.out.k (HOk.out.h.lower hD3)).lower h30.out
                obtain ⟨g1, g2, g3⟩ := res_set r9 (.slice xa m xc) (.slice za zn zc)
                obtain ⟨X, hX⟩ : ∃ X, X = (wr.setCell ⟨R, 0, none⟩ (.slice xa m xc)).setCell ⟨R, 1, none⟩ (.slice za zn zc) := ⟨_, rfl⟩
                rw [← hX] at g1 HRO
                have bX : Below w.heap.size w X := by rw [hX]; exact (hb9.setCell (p := ⟨R, 0, none⟩) (by show _ ≤ R; have := HPR.out; omega) _).setCell (p := ⟨R, 1, none⟩) (by show _ ≤ R; have := HPR.out; omega) _
                have HX9 : Hid (X = (wr.setCell ⟨R, 0, none⟩ (.slice xa m xc)).setCell ⟨R, 1, none⟩ (.slice za zn zc)) := hX
                have HX0 : Aside (X.cell? ⟨R, 0, none⟩ = some (.slice xa m xc)) := by unfold Aside; rw [cell_of_row _ _ _ _ _ _ g1]; rfl
                have HX1 : Aside (X.cell? ⟨R, 1, none⟩ = some (.slice za zn zc)) := by unfold Aside; rw [cell_of_row _ _ _ _ _ _ g1]; rfl
                have x0' : wr.cell? ⟨R, 0, none⟩ = some (.slice none 0 0) := by rw [cell_of_row _ _ _ _ _ _ r9]; rfl
                have x1' : wr.cell? ⟨R, 1, none⟩ = some (.slice none 0 0) := by rw [cell_of_row _ _ _ _ _ _ r9]; rfl
                have f0' : wr.frozen? ⟨R, 0, none⟩ = false := frozen_of_row _ _ _ _ _ r9
                have f1' : wr.frozen? ⟨R, 1, none⟩ = false := frozen_of_row _ _ _ _ _ r9
                clear g1 g2 g3 hX r9
                go_wp2
                rw [← HX9.out]
                have y0 := HX0.out
                have y1 := HX1.out
                refine bodyPost_ret (v := .tuple #[.agg #[.slice xa m xc, .slice za zn zc], .int .i64 0]) (by simp [results, Tryz.results51, go_sem, y0, y1]) rfl ?_
                exact ⟨_, ret_two' E0.out.symm, HRO.out, bX⟩
              | false =>
                have HEq : Hid (O ++ [(s, x)] = M.insH (s, x) H) := HIe.out
                have k1 : wr.cell? ⟨D, 1, none⟩ = some (.slice za zn zc) := by rw [cell_of_row _ _ _ _ _ _ HOk.out.blk]; rfl
                have HOA : Hid (OwnH (wr.alloc (.cells #[.string s, .int .i64 x] 58)) D (.slice za zn zc) O) := HOk.out.h.later ((Below.refl _ _).alloc (Nat.le_refl _) _)
                have HHN : Hid (Hs (wr.alloc (.cells #[.string s, .int .i64 x] 58)) (some ⟨wr.heap.size, 0, none⟩) 1 [(s, x)]) := head_new wr s x hss
                have hzn5 : O.length + 1 ≤ 1000000 := by have := HOl.out; omega
                have hDa : D ≤ (wr.alloc (.cells #[.string s, .int .i64 x] 58)).heap.size := by simp; omega
                go_wp2_with (at_builtin; refine wpl_heads rfl _ _ rfl D _ O rfl HOA.out (some ⟨wr.heap.size, 0, none⟩) 1 1 [(s, x)] rfl HHN.out (fun h => by simp at h) hzn5 hDa ?_)
                intro v7 w7 o7 g7
                obtain ⟨ra7, rc7, rfl, _⟩ := o7.hs
                obtain ⟨rn7, hrn7⟩ : ∃ rn, rn = (O ++ [(s, x)]).length := ⟨_, rfl⟩
                rw [← hrn7] at o7 ⊢
                obtain ⟨P1, P2⟩ := HOk.out.put (q := (s, x)) (y' := .slice ra7 rn7 rc7) _ o7 g7
                have k7 : w7.cell? ⟨D, 1, none⟩ = some (.slice za zn zc) := by rw [cell_of_row _ _ _ _ _ _ P2]; rfl
                have f7 : w7.frozen? ⟨D, 1, none⟩ = false := frozen_of_row _ _ _ _ _ P2
                obtain ⟨W8, hW8⟩ : ∃ W8, W8 = w7.setCell ⟨D, 1, none⟩ (.slice ra7 rn7 rc7) := ⟨_, rfl⟩
                rw [← hW8] at P1
                have HO8 : Aside (BAt w4 w3.heap.size D (.slice xa m xc) (.slice ra7 rn7 rc7) C (O ++ [(s, x)]) W8) := P1
                have HW8 : Hid (W8 = w7.setCell ⟨D, 1, none⟩ (.slice ra7 rn7 rc7)) := hW8
                clear P1 P2 o7 g7 hrn7 k1 HOA HHN d1
                have r9 : W8.heap[R]? = some (.cells #[.slice none 0 0, .slice none 0 0] 35 (0, 0)) := (HO8.out.bel.block R hRD).trans r4
                have hb9 : Below w.heap.size w W8 := hb4.trans (HO8.out.bel.mono HWD.out)
                have e0' : W8.cell? ⟨D, 0, none⟩ = some (.slice xa m xc) := by rw [cell_of_row _ _ _ _ _ _ HO8.out.blk]; rfl
                have e1' : W8.cell? ⟨D, 1, none⟩ = some (.slice ra7 rn7 rc7) := by rw [cell_of_row _ _ _ _ _ _ HO8.out.blk]; rfl
                have HRO : Aside (RepoOwn ((W8.setCell ⟨R, 0, none⟩ (.slice xa m xc)).setCell ⟨R, 1, none⟩ (.slice ra7 rn7 rc7)) w.heap.size (.agg #[.slice xa m xc, .slice ra7 rn7 rc7]) (M.brC C H s t) (M.brH C H s t)) := by unfold Aside; rw [EC.out.1, EC.out.2, ← HEq.out]; exact (repoOwn_set r9 HO8.out.k (HO8.out.h.lower hD3)).lower h30.out
                obtain ⟨g1, g2, g3⟩ := res_set r9 (.slice xa m xc) (.slice ra7 rn7 rc7)
                obtain ⟨X, hX⟩ : ∃ X, X = (W8.setCell ⟨R, 0, none⟩ (.slice xa m xc)).setCell ⟨R, 1, none⟩ (.slice ra7 rn7 rc7) := ⟨_, rfl⟩
                rw [← hX] at g1 HRO
                have bX : Below w.heap.size w X := by rw [hX]; exact (hb9.setCell (p := ⟨R, 0, none⟩) (by show _ ≤ R; have := HPR.out; omega) _).setCell (p := ⟨R, 1, none⟩) (by show _ ≤ R; have := HPR.out; omega) _
                have HX9 : Hid (X = (W8.setCell ⟨R, 0, none⟩ (.slice xa m xc)).setCell ⟨R, 1, none⟩ (.slice ra7 rn7 rc7)) := hX
                have HX0 : Aside (X.cell? ⟨R, 0, none⟩ = some (.slice xa m xc)) := by unfold Aside; rw [cell_of_row _ _ _ _ _ _ g1]; rfl
                have HX1 : Aside (X.cell? ⟨R, 1, none⟩ = some (.slice ra7 rn7 rc7)) := by unfold Aside; rw [cell_of_row _ _ _ _ _ _ g1]; rfl
                have x0' : W8.cell? ⟨R, 0, none⟩ = some (.slice none 0 0) := by rw [cell_of_row _ _ _ _ _ _ r9]; rfl
                have x1' : W8.cell? ⟨R, 1, none⟩ = some (.slice none 0 0) := by rw [cell_of_row _ _ _ _ _ _ r9]; rfl
                have f0' : W8.frozen? ⟨R, 0, none⟩ = false := frozen_of_row _ _ _ _ _ r9
                have f1' : W8.frozen? ⟨R, 1, none⟩ = false := frozen_of_row _ _ _ _ _ r9
                clear g1 g2 g3 hX r9
                rw [hW8] at e0' e1' x0' x1' f0' f1'
                clear hW8
                go_wp2
                rw [← HW8.out, ← HX9.out]
                have y0 := HX0.out
                have y1 := HX1.out
                refine bodyPost_ret (v := .tuple #[.agg #[.slice xa m xc, .slice ra7 rn7 rc7], .int .i64 0]) (by simp [results, Tryz.results51, go_sem, y0, y1]) rfl ?_
                exact ⟨_, ret_two' E0.out.symm, HRO.out, bX⟩
  · have hzb : (z != 0) = true := by simp [hz0]
    have EE : Aside (M.brE C H s t = z) := by unfold Aside M.brE; rw [← HZ.out, if_pos hz0]
    have EC : Aside (M.brC C H s t = [] ∧ M.brH C H s t = []) := ⟨by unfold M.brC; rw [if_neg (by rw [EE.out]; exact hz0)], by unfold M.brH; rw [if_neg (by rw [EE.out]; exact hz0)]⟩
    clear hz0 J1 d0 d1 c0 c1 KH
    obtain ⟨g1, g2, g3⟩ := res_set r1 (.slice none 0 0) (.slice none 0 0)
    obtain ⟨X, hX⟩ : ∃ X, X = (w1.setCell ⟨R, 0, none⟩ (.slice none 0 0)).setCell ⟨R, 1, none⟩ (.slice none 0 0) := ⟨_, rfl⟩
    rw [← hX] at g1
    have bX : Below w.heap.size w X := by rw [hX]; exact (hb1.setCell (p := ⟨R, 0, none⟩) (by show _ ≤ R; have := HPR.out; omega) _).setCell (p := ⟨R, 1, none⟩) (by show _ ≤ R; have := HPR.out; omega) _
    have gX := g1
    have HX9 : Hid (X = (w1.setCell ⟨R, 0, none⟩ (.slice none 0 0)).setCell ⟨R, 1, none⟩ (.slice none 0 0)) := hX
    have HX0 : Aside (X.cell? ⟨R, 0, none⟩ = some (.slice none 0 0)) := by unfold Aside; rw [cell_of_row _ _ _ _ _ _ gX]; rfl
    have HX1 : Aside (X.cell? ⟨R, 1, none⟩ = some (.slice none 0 0)) := by unfold Aside; rw [cell_of_row _ _ _ _ _ _ gX]; rfl
    have x0 : w1.cell? ⟨R, 0, none⟩ = some (.slice none 0 0) := by rw [cell_of_row _ _ _ _ _ _ r1]; rfl
    have x1 : w1.cell? ⟨R, 1, none⟩ = some (.slice none 0 0) := by rw [cell_of_row _ _ _ _ _ _ r1]; rfl
    have f0 : w1.frozen? ⟨R, 0, none⟩ = false := frozen_of_row _ _ _ _ _ r1
    have f1 : w1.frozen? ⟨R, 1, none⟩ = false := frozen_of_row _ _ _ _ _ r1
    clear g1 g2 g3 hX gX r1
    go_wp2
    rw [← HX9.out]
    have y0 := HX0.out
    have y1 := HX1.out
    refine bodyPost_ret (v := .tuple #[.agg #[.slice none 0 0, .slice none 0 0], .int .i64 z]) (by simp [results, Tryz.results51, go_sem, y0, y1]) rfl ?_
    refine ⟨_, ret_two' EE.out.symm, ?_, bX⟩
    rw [EC.out.1, EC.out.2]; exact RepoOwn.none _ _
end Go.Proofs.YtcgpgflnihjpiagGreat
