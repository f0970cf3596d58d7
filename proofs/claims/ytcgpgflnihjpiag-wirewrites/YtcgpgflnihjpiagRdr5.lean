/- The reader of bytes: commits, repos. -/
import Derived.Test.YtcgpgflnihjpiagRdr4
import Derived.Test.YtcgpgflnihjpiagKApp
import Derived.Test.YtcgpgflnihjpiagEnc2
namespace Go.Proofs.Ytcgpgflnihjpiag
open Go.RowKit

theorem M.rN_len {α : Type} {f : M.By → Option (α × M.By)} : ∀ (n : Nat) (l : M.By) (xs : List α) (t : M.By), M.rN f n l = some (xs, t) → xs.length = n
  | 0, l, xs, t, h => by
    simp only [M.rN, Option.some.injEq, Prod.mk.injEq] at h
    rw [← h.1]; rfl
  | n + 1, l, xs, t, h => by
    rw [M.rN] at h
    split at h
    · simp at h
    · rename_i x l1 hx
      split at h
      · simp at h
      · rename_i ys l2 hy
        simp only [Option.some.injEq, Prod.mk.injEq] at h
        rw [← h.1, List.length_cons, M.rN_len n _ _ _ hy]
theorem M.rL_len {α : Type} {f : M.By → Option (α × M.By)} {l t : M.By} {xs : List α} (h : M.rL f l = some (xs, t)) : xs.length < 256 := by
  unfold M.rL at h
  split at h
  · simp at h
  · rename_i n l1 hB
    have := M.rN_len _ _ _ _ h
    have := M.rB_range hB
    omega
/-- A commit that was read. -/
def isCom (base : Nat) (c : M.Com) (v : Value) (w : World) : Prop := ∃ x y, v = .agg #[x, y] ∧ OwnCo w base (x, y) c
def isComs (base : Nat) (C : List M.Com) (v : Value) (w : World) : Prop := OwnK w base v C
def isRepo (base : Nat) (x : List M.Com × List (M.By × Int)) (v : Value) (w : World) : Prop := RepoOwn w base v x.1 (x.2.map M.hdS)
theorem OwnK.but {w w' : World} {b base : Nat} {v : Value} {C : List M.Com} (h : OwnK w base v C) (hb : But b w w') (hlt : b < base) : OwnK w' base v C := by
  obtain ⟨vals, h1, h2, h3⟩ := h
  exact ⟨vals, h1, ownsRow_but h2 hb hlt, fun i hi => ⟨ownsRow_but (h3 i hi).1 hb hlt, ownsRow_but (h3 i hi).2.1 hb hlt, (h3 i hi).2.2⟩⟩

theorem M.rCo_no1 {l : M.By} (h : M.rL M.rR l = none) : M.rCo l = none := by unfold M.rCo; rw [h]
theorem M.rCo_at {l l1 : M.By} {k : List (Int × Int)} (h : M.rL M.rR l = some (k, l1)) : M.rCo l = (match M.rL M.rB l1 with | none => none | some (o, l2) => some ((k, o), l2)) := by
  unfold M.rCo; rw [h]; rfl
set_option maxRecDepth 100000 in
set_option maxHeartbeats 4000000 in
theorem rcommit_any (b : Nat) (l : M.By) (w : World) (h : RdAt w b l) :
    Calls Try.prog 40 #[.pointer (some ⟨b, 0, none⟩)] w fun e w' => Reads b w w' (M.rCo l) (isCom w.heap.size) e := by
  obtain ⟨R, hR⟩ : ∃ R, R = w.heap.size := ⟨_, rfl⟩
  obtain ⟨W, hW⟩ : ∃ W, W = w.alloc (.cells #[.slice none 0 0, .slice none 0 0] 46) := ⟨_, rfl⟩
  have hb0 : But b w W := by rw [hW]; exact But.alloc _ _ _
  have q0 : W.heap[R]? = some (.cells #[.slice none 0 0, .slice none 0 0] 46 (0, 0)) := by rw [hW, hR]; exact heap_alloc_new _ _
  have hlt := h.lt
  have hW0 : RdAt W b l := h.later (by rw [hW]; exact (Below.refl _ _).alloc (Nat.le_refl _) _)
  have hbR : b ≠ R := by omega
  have hltW : b < W.heap.size := hW0.lt
  have HLt : Hid (b < W.heap.size) := hltW
  have HBR : Aside (b ≠ R) := hbR
  have K : Hid (Calls Try.prog 51 #[.pointer (some ⟨b, 0, none⟩), .func (.func 52) #[] #[]] W fun e w' => Reads b W w' (M.rL M.rR l) (isRows W.heap.size) e) := lrow_any b l W hW0
  have HQ : Hid (W.heap[R]? = some (.cells #[.slice none 0 0, .slice none 0 0] 46 (0, 0))) := q0
  have HW : Hid (W = w.alloc (.cells #[.slice none 0 0, .slice none 0 0] 46)) := hW
  have HR : Aside (R = w.heap.size) := hR
  clear h hW hR q0 hW0 hlt hbR hltW
  go_enter Try.func40, Try.ntmps40
  go_wp2_with fail
  rw [← HW.out, ← HR.out]
  refine K.out.mono ?_
  rintro e w1 ⟨hb1, ⟨k, l1, v, h1, rfl, o1, hr⟩ | ⟨h1, rfl⟩⟩
  case inr =>
    have H1 : Hid (M.rL M.rR l = none) := h1
    clear h1 K
    unfold early
    go_wp2
    exact ⟨rfl, hb0.trans hb1, Or.inr ⟨M.rCo_no1 H1.out, rfl⟩⟩
  have H1 : Hid (M.rCo l = (match M.rL M.rB l1 with | none => none | some (o, l2) => some ((k, o), l2))) := M.rCo_at h1
  have HLk : Hid (k.length < 256) := M.rL_len h1
  have K2 : Hid (Calls Try.prog 53 #[.pointer (some ⟨b, 0, none⟩), .func (.func 54) #[] #[]] w1 fun e w' => Reads b w1 w' (M.rL M.rB l1) (isInts w1.heap.size) e) := lint_any b l1 w1 hr
  have HO1 : Hid (isRows W.heap.size k v w1) := o1
  obtain ⟨va, vc, hv, _⟩ := Own.rd HO1.out
  obtain ⟨vn, hvn⟩ : ∃ vn, vn = k.length := ⟨_, rfl⟩
  rw [← hvn] at hv
  subst hv
  clear hvn
  have hc1 := hb0.trans hb1
  clear h1 hr K o1
  go_wp2_with fail
  refine K2.out.mono ?_
  rintro e w2 ⟨hb2, ⟨o, l2, u, h2, rfl, o2, hr⟩ | ⟨h2, rfl⟩⟩
  case inr =>
    have H2 : Hid (M.rL M.rB l1 = none) := h2
    clear h2 K2
    unfold early
    go_wp2
    exact ⟨rfl, hc1.trans hb2, Or.inr ⟨by rw [H1.out, H2.out], rfl⟩⟩
  have H2 : Hid (M.rL M.rB l1 = some (o, l2)) := h2
  have HLo : Hid (o.length < 256) := M.rL_len h2
  have hc2 := hc1.trans hb2
  have HO2 : Hid (isInts w1.heap.size o u w2) := o2
  obtain ⟨ua, uc, hu, _⟩ := OwnI.ri HO2.out
  obtain ⟨un, hun⟩ : ∃ un, un = o.length := ⟨_, rfl⟩
  rw [← hun] at hu
  subst hu
  clear hun
  have q3 : w2.heap[R]? = some (.cells #[.slice none 0 0, .slice none 0 0] 46 (0, 0)) := ((hb1.trans hb2).block R (Array.getElem?_eq_some_iff.1 HQ.out).1 (fun e => HBR.out (Option.some.inj e).symm)).trans HQ.out
  have y0 : w2.cell? ⟨R, 0, none⟩ = some (.slice none 0 0) := by rw [cell_of_row _ _ _ _ _ _ q3]; rfl
  have y1 : w2.cell? ⟨R, 1, none⟩ = some (.slice none 0 0) := by rw [cell_of_row _ _ _ _ _ _ q3]; rfl
  have f0 : w2.frozen? ⟨R, 0, none⟩ = false := frozen_of_row _ _ _ _ _ q3
  have f1 : w2.frozen? ⟨R, 1, none⟩ = false := frozen_of_row _ _ _ _ _ q3
  obtain ⟨X1, hX1⟩ : ∃ X, X = w2.setCell ⟨R, 0, none⟩ (.slice va vn vc) := ⟨_, rfl⟩
  obtain ⟨X, hX⟩ : ∃ X, X = X1.setCell ⟨R, 1, none⟩ (.slice ua un uc) := ⟨_, rfl⟩
  have qX1 : X1.heap[R]? = some (.cells #[.slice va vn vc, .slice none 0 0] 46 (0, 0)) := by rw [hX1, heap_setCell_same _ _ _ _ _ _ q3]; rfl
  have qX : X.heap[R]? = some (.cells #[.slice va vn vc, .slice ua un uc] 46 (0, 0)) := by rw [hX, heap_setCell_same _ _ _ _ _ _ qX1]; rfl
  have gX1 : w2.grownBy X1 (some R) := by rw [hX1]; exact grownBy_set w2 ⟨R, 0, none⟩ _
  have gX : X1.grownBy X (some R) := by rw [hX]; exact grownBy_set X1 ⟨R, 1, none⟩ _
  have HX : Hid (X = (w2.setCell ⟨R, 0, none⟩ (.slice va vn vc)).setCell ⟨R, 1, none⟩ (.slice ua un uc)) := by unfold Hid; rw [hX, hX1]
  have HRX : Hid (RdAt X b l2) := by unfold Hid; rw [hX, hX1]; exact (hr.other HBR.out _).other HBR.out _
  have HBX : Hid (But b w X) := by unfold Hid; rw [hX, hX1]; exact (hc2.setNew (Nat.le_of_eq HR.out.symm) _).setNew (Nat.le_of_eq HR.out.symm) _
  have HX0 : Aside (X.cell? ⟨R, 0, none⟩ = some (.slice va vn vc) ∧ X.cell? ⟨R, 1, none⟩ = some (.slice ua un uc)) := ⟨by rw [cell_of_row _ _ _ _ _ _ qX]; rfl, by rw [cell_of_row _ _ _ _ _ _ qX]; rfl⟩
  have HVal : Hid (isCom w.heap.size (k, o) (.agg #[.slice va vn vc, .slice ua un uc]) X) := by
    have no : ∀ (V : World) (cur : Array Value) (e : TypeId), V.heap[R]? = some (.cells cur 46 (0, 0)) → 46 ≠ e → ∀ r, some R = some r → ∀ cur', V.heap[r]? ≠ some (.cells cur' e (0, 0)) := fun V cur e hV he r hr' cur' hc => by
      cases hr'
      rw [hV] at hc
      simp at hc
      exact he hc.2
    refine ⟨_, _, rfl, ?_, ?_, by have := HLk.out; show k.length ≤ _; omega, by have := HLo.out; show o.length ≤ _; omega⟩
    · exact ownsRow_lower (ownsRow_elsewhere (ownsRow_elsewhere (ownsRow_but HO1.out hb2 HLt.out) gX1 (no _ _ _ q3 (by decide))) gX (no _ _ _ qX1 (by decide))) hb0.size
    · exact ownsRow_lower (ownsRow_elsewhere (ownsRow_elsewhere HO2.out gX1 (no _ _ _ q3 (by decide))) gX (no _ _ _ qX1 (by decide))) hc1.size
  clear h2 hr K2 q3 qX qX1 hX hX1 gX gX1 o2
  go_wp2
  rw [← HX.out]
  obtain ⟨z0, z1⟩ := HX0.out
  refine bodyPost_ret (v := .agg #[.slice va vn vc, .slice ua un uc]) (by simp [results, Try.results40, go_sem, z0, z1]) rfl ?_
  exact ⟨HBX.out, Or.inl ⟨(k, o), l2, _, by rw [H1.out, H2.out], rfl, HVal.out, HRX.out⟩⟩

set_option maxRecDepth 100000 in
set_option maxHeartbeats 4000000 in
theorem lcommit_any (b : Nat) (l : M.By) (w : World) (h : RdAt w b l) :
    Calls Try.prog 39 #[.pointer (some ⟨b, 0, none⟩), .func (.func 40) #[] #[]] w fun e w' => Reads b w w' (M.rL M.rCo l) (isComs w.heap.size) e := by
  obtain ⟨i1, hi1, hy0, hy1, hy2⟩ := info_parts infoCommit
  have K : Hid (Calls Try.prog 50 #[.pointer (some ⟨b, 0, none⟩)] w fun e w' => Reads b w w' (M.rB l) isInt e) := byte_any b l w h
  have hlt := h.lt
  clear h
  go_enter Try.func39, Try.ntmps39
  go_wp2_with fail
  refine K.out.mono ?_
  rintro e w1 ⟨hb1, ⟨k, l1, v, h1, rfl, rfl, hr⟩ | ⟨h1, rfl⟩⟩
  case inr =>
    have H1 : Hid (M.rB l = none) := h1
    clear h1 K
    unfold early
    go_wp2
    exact ⟨rfl, hb1, Or.inr ⟨by unfold M.rL; rw [H1.out], rfl⟩⟩
  have hk := M.rB_range h1
  obtain ⟨n, rfl⟩ : ∃ n : Nat, k = (n : Int) := ⟨k.toNat, by omega⟩
  have H1 : Hid (M.rL M.rCo l = M.rN M.rCo n l1) := by unfold Hid M.rL; rw [h1]; rfl
  have hn : n < 256 := by omega
  have HR0 : Aside (RdAt w1 b l1) := hr
  clear h1 hr K hk
  go_wp2_with fail
  go_loopg [8, 5] n (fun g i v wr => ∃ (k : Nat) (xs : List M.Com) (t : M.By), k + g = n ∧ i = .int .i64 k ∧ Aside (M.rN M.rCo k l1 = some (xs, t)) ∧ Aside (xs.length = k) ∧ Aside (OwnK wr w.heap.size v xs) ∧ Aside (RdAt wr b t) ∧ But b w wr)
  case atStart => exact ⟨0, [], l1, by omega, rfl, rfl, rfl, OwnK.nil _ _, HR0, hb1⟩
  case round =>
    obtain ⟨k, xs, t, hkg, rfl, HN, HL, HO, HRt, hbw⟩ := hrel
    by_cases hkn : k < n
    · have hki : (k : Int) < (n : Int) := by omega
      have K2 : Hid (Calls Try.prog 40 #[.pointer (some ⟨b, 0, none⟩)] wr fun e w' => Reads b wr w' (M.rCo t) (isCom wr.heap.size) e) := rcommit_any b t wr HRt.out
      go_wp2_with fail
      refine K2.out.mono ?_
      rintro e w2 ⟨hb2, ⟨c, t2, v, h2, rfl, ⟨x, y, rfl, oc⟩, hr⟩ | ⟨h2, rfl⟩⟩
      · have HN2 : Aside (M.rN M.rCo (k + 1) l1 = some (xs ++ [c], t2)) := by unfold Aside; rw [M.rN_snoc, HN.out]; simp only; rw [h2]
        have HL2 : Aside ((xs ++ [c]).length = k + 1) := by unfold Aside; rw [List.length_append, HL.out]; rfl
        have hs2 : w.heap.size ≤ w2.heap.size := (hbw.trans hb2).size
        obtain ⟨xa, xc, hx, _⟩ := Own.rd oc.1
        obtain ⟨ya, yc, hy, _⟩ := OwnI.ri oc.2.1
        simp only at hx hy
        obtain ⟨xn, hxn⟩ : ∃ xn, xn = c.1.length := ⟨_, rfl⟩
        obtain ⟨yn, hyn⟩ : ∃ yn, yn = c.2.length := ⟨_, rfl⟩
        rw [← hxn] at hx
        rw [← hyn] at hy
        subst hx hy
        obtain ⟨vals, hvl, hrow, hel⟩ := HO.out.but hb2 hlt
        obtain ⟨X, hX⟩ : ∃ X, X = w2.alloc (.cells #[.slice xa xn xc, .slice ya yn yc] 46) := ⟨_, rfl⟩
        have bX : Below w2.heap.size w2 X := by rw [hX]; exact (Below.refl _ _).alloc (Nat.le_refl _) _
        have HOA : Hid (X.ownsRow w.heap.size 46 2 u5 xs.length (encP vals)) := ownsRow_later hrow bX
        have HPut : Hid (∀ v' w', w'.ownsRow w.heap.size 46 2 v' (xs.length + 1) (encP vals ++ [.slice xa xn xc, .slice ya yn yc]) → X.grownBy w' u5.ownBlock → OwnK w' w.heap.size v' (xs ++ [c])) := fun v' w' h3 hg =>
          OwnK.append (p := (.slice xa xn xc, .slice ya yn yc)) hvl HOA.out (fun i hi => (hel i hi).later bX) (OwnCo.later ⟨ownsRow_lower oc.1 hbw.size, ownsRow_lower oc.2.1 hbw.size, oc.2.2⟩ bX) h3 hg
        have HCN : Hid (∀ j u, [Value.slice xa xn xc, .slice ya yn yc][j]? = some u → X.cell? ((⟨w2.heap.size, 0, none⟩ : Addr).add j) = some u) := by
          unfold Hid; rw [hX]
          intro j u hj
          match j, hj with
          | 0, hj => simp at hj; subst hj; simp [go_sem, Addr.add]
          | 1, hj => simp at hj; subst hj; simp [go_sem, Addr.add]
        have HBX : Hid (Below w.heap.size w2 X) := bX.mono hs2
        have HOw : Hid (∀ kk, u5.ownBlock = some kk → w.heap.size ≤ kk) := fun kk e => (World.ownsRow.lt hrow kk e).1
        have HX : Hid (X = w2.alloc (.cells #[.slice xa xn xc, .slice ya yn yc] 46)) := hX
        have HR2 : Hid (RdAt w2 b t2) := hr
        have hbig : xs.length + 1 ≤ 1000000 := by rw [HL.out]; omega
        have hsX : Hid (w.heap.size ≤ X.heap.size) := Nat.le_trans hs2 bX.size
        clear h2 hr K2 oc hvl hrow hel hX bX hxn hyn
        go_wp2_with (at_builtin; rw [← HX.out]; refine wpList_append_own _ rfl _ _ 22 rfl w.heap.size 46 i1 (.agg #[.slice none 0 0, .slice none 0 0]) 2 48 Try.underlying22 hi1 hy0 hy1 hy2 rfl (by decide) _ xs.length (encP vals) rfl HOA.out ⟨w2.heap.size, 0, none⟩ 1 1 [.slice xa xn xc, .slice ya yn yc] rfl rfl HCN.out (by intro u hu; simp at hu; rcases hu with rfl | rfl <;> rfl) (by simp only [maxLen]; omega) (by omega) hsX.out ?_)
        intro v' w3 h3 h4 _
        have qb3 : Below w.heap.size w2 w3 := HBX.out.trans ((Below.refl _ _).grown h4 hsX.out HOw.out)
        have HO3 : Aside (OwnK w3 w.heap.size v' (xs ++ [c])) := HPut.out v' w3 h3 h4
        have HR3 : Aside (RdAt w3 b t2) := HR2.out.keep qb3 hlt
        have hbw3 : But b w w3 := (hbw.trans hb2).then qb3
        clear h3 h4 HOA qb3 HPut HCN HOw
        go_wp2
        go_roundg (gk - 1)
        case measure => omega
        case rel => exact ⟨k + 1, _, t2, by omega, by go_num, HN2, HL2, HO3, HR3, hbw3⟩
      · have H2 : Hid (M.rN M.rCo n l1 = none) := by
          have : M.rN M.rCo (k + 1) l1 = none := by rw [M.rN_snoc, HN.out]; simp only; rw [h2]
          exact M.rN_none _ _ _ _ this (by omega)
        clear h2 K2
        unfold early
        go_wp2
        exact ⟨rfl, hbw.trans hb2, Or.inr ⟨by rw [H1.out, H2.out], rfl⟩⟩
    · obtain rfl : k = n := by omega
      have hkk2 : decide ((k : Int) < (k : Int)) = false := by simp
      go_wp2
      go_ret
      exact ⟨hbw, Or.inl ⟨xs, t, _, by rw [H1.out]; exact HN.out, rfl, HO.out, HRt.out⟩⟩

theorem M.rRe_no1 {l : M.By} (h : M.rL M.rCo l = none) : M.rRe l = none := by unfold M.rRe; rw [h]
theorem M.rRe_at {l l1 : M.By} {k : List (M.Com)} (h : M.rL M.rCo l = some (k, l1)) : M.rRe l = (match M.rL M.rHd l1 with | none => none | some (o, l2) => some ((k, o), l2)) := by
  unfold M.rRe; rw [h]; rfl
set_option maxRecDepth 100000 in
set_option maxHeartbeats 4000000 in
theorem rrepo_any (b : Nat) (l : M.By) (w : World) (h : RdAt w b l) :
    Calls Try.prog 23 #[.pointer (some ⟨b, 0, none⟩)] w fun e w' => Reads b w w' (M.rRe l) (isRepo w.heap.size) e := by
  obtain ⟨R, hR⟩ : ∃ R, R = w.heap.size := ⟨_, rfl⟩
  obtain ⟨W, hW⟩ : ∃ W, W = w.alloc (.cells #[.slice none 0 0, .slice none 0 0] 25) := ⟨_, rfl⟩
  have hb0 : But b w W := by rw [hW]; exact But.alloc _ _ _
  have q0 : W.heap[R]? = some (.cells #[.slice none 0 0, .slice none 0 0] 25 (0, 0)) := by rw [hW, hR]; exact heap_alloc_new _ _
  have hlt := h.lt
  have hW0 : RdAt W b l := h.later (by rw [hW]; exact (Below.refl _ _).alloc (Nat.le_refl _) _)
  have hbR : b ≠ R := by omega
  have hltW : b < W.heap.size := hW0.lt
  have HLt : Hid (b < W.heap.size) := hltW
  have HBR : Aside (b ≠ R) := hbR
  have K : Hid (Calls Try.prog 39 #[.pointer (some ⟨b, 0, none⟩), .func (.func 40) #[] #[]] W fun e w' => Reads b W w' (M.rL M.rCo l) (isComs W.heap.size) e) := lcommit_any b l W hW0
  have HQ : Hid (W.heap[R]? = some (.cells #[.slice none 0 0, .slice none 0 0] 25 (0, 0))) := q0
  have HW : Hid (W = w.alloc (.cells #[.slice none 0 0, .slice none 0 0] 25)) := hW
  have HR : Aside (R = w.heap.size) := hR
  clear h hW hR q0 hW0 hlt hbR hltW
  go_enter Try.func23, Try.ntmps23
  go_wp2_with fail
  rw [← HW.out, ← HR.out]
  refine K.out.mono ?_
  rintro e w1 ⟨hb1, ⟨k, l1, v, h1, rfl, o1, hr⟩ | ⟨h1, rfl⟩⟩
  case inr =>
    have H1 : Hid (M.rL M.rCo l = none) := h1
    clear h1 K
    unfold early
    go_wp2
    exact ⟨rfl, hb0.trans hb1, Or.inr ⟨M.rRe_no1 H1.out, rfl⟩⟩
  have H1 : Hid (M.rRe l = (match M.rL M.rHd l1 with | none => none | some (o, l2) => some ((k, o), l2))) := M.rRe_at h1
  have HLk : Hid (k.length < 256) := M.rL_len h1
  have K2 : Hid (Calls Try.prog 41 #[.pointer (some ⟨b, 0, none⟩), .func (.func 42) #[] #[]] w1 fun e w' => Reads b w1 w' (M.rL M.rHd l1) (isHds w1.heap.size) e) := lhead_any b l1 w1 hr
  have HO1 : Hid (isComs W.heap.size k v w1) := o1
  obtain ⟨va, vc, hv, _⟩ := OwnK.cm HO1.out
  obtain ⟨vn, hvn⟩ : ∃ vn, vn = k.length := ⟨_, rfl⟩
  rw [← hvn] at hv
  subst hv
  clear hvn
  have hc1 := hb0.trans hb1
  clear h1 hr K o1
  go_wp2_with fail
  refine K2.out.mono ?_
  rintro e w2 ⟨hb2, ⟨o, l2, u, h2, rfl, o2, hr⟩ | ⟨h2, rfl⟩⟩
  case inr =>
    have H2 : Hid (M.rL M.rHd l1 = none) := h2
    clear h2 K2
    unfold early
    go_wp2
    exact ⟨rfl, hc1.trans hb2, Or.inr ⟨by rw [H1.out, H2.out], rfl⟩⟩
  have H2 : Hid (M.rL M.rHd l1 = some (o, l2)) := h2
  have HLo : Hid (o.length < 256) := M.rL_len h2
  have hc2 := hc1.trans hb2
  have HO2 : Hid (isHds w1.heap.size o u w2) := o2
  obtain ⟨ua, uc, hu, _⟩ := OwnH.hs HO2.out
  obtain ⟨un, hun⟩ : ∃ un, un = (o.map M.hdS).length := ⟨_, rfl⟩
  rw [← hun] at hu
  subst hu
  clear hun
  have q3 : w2.heap[R]? = some (.cells #[.slice none 0 0, .slice none 0 0] 25 (0, 0)) := ((hb1.trans hb2).block R (Array.getElem?_eq_some_iff.1 HQ.out).1 (fun e => HBR.out (Option.some.inj e).symm)).trans HQ.out
  have y0 : w2.cell? ⟨R, 0, none⟩ = some (.slice none 0 0) := by rw [cell_of_row _ _ _ _ _ _ q3]; rfl
  have y1 : w2.cell? ⟨R, 1, none⟩ = some (.slice none 0 0) := by rw [cell_of_row _ _ _ _ _ _ q3]; rfl
  have f0 : w2.frozen? ⟨R, 0, none⟩ = false := frozen_of_row _ _ _ _ _ q3
  have f1 : w2.frozen? ⟨R, 1, none⟩ = false := frozen_of_row _ _ _ _ _ q3
  obtain ⟨X1, hX1⟩ : ∃ X, X = w2.setCell ⟨R, 0, none⟩ (.slice va vn vc) := ⟨_, rfl⟩
  obtain ⟨X, hX⟩ : ∃ X, X = X1.setCell ⟨R, 1, none⟩ (.slice ua un uc) := ⟨_, rfl⟩
  have qX1 : X1.heap[R]? = some (.cells #[.slice va vn vc, .slice none 0 0] 25 (0, 0)) := by rw [hX1, heap_setCell_same _ _ _ _ _ _ q3]; rfl
  have qX : X.heap[R]? = some (.cells #[.slice va vn vc, .slice ua un uc] 25 (0, 0)) := by rw [hX, heap_setCell_same _ _ _ _ _ _ qX1]; rfl
  have gX1 : w2.grownBy X1 (some R) := by rw [hX1]; exact grownBy_set w2 ⟨R, 0, none⟩ _
  have gX : X1.grownBy X (some R) := by rw [hX]; exact grownBy_set X1 ⟨R, 1, none⟩ _
  have HX : Hid (X = (w2.setCell ⟨R, 0, none⟩ (.slice va vn vc)).setCell ⟨R, 1, none⟩ (.slice ua un uc)) := by unfold Hid; rw [hX, hX1]
  have HRX : Hid (RdAt X b l2) := by unfold Hid; rw [hX, hX1]; exact (hr.other HBR.out _).other HBR.out _
  have HBX : Hid (But b w X) := by unfold Hid; rw [hX, hX1]; exact (hc2.setNew (Nat.le_of_eq HR.out.symm) _).setNew (Nat.le_of_eq HR.out.symm) _
  have HX0 : Aside (X.cell? ⟨R, 0, none⟩ = some (.slice va vn vc) ∧ X.cell? ⟨R, 1, none⟩ = some (.slice ua un uc)) := ⟨by rw [cell_of_row _ _ _ _ _ _ qX]; rfl, by rw [cell_of_row _ _ _ _ _ _ qX]; rfl⟩
  have HVal : Hid (isRepo w.heap.size (k, o) (.agg #[.slice va vn vc, .slice ua un uc]) X) := by
    refine ⟨_, _, rfl, ?_, ?_⟩
    · exact (((HO1.out.but hb2 HLt.out).elsewhere gX1 q3 (by decide) (by decide) (by decide)).elsewhere gX qX1 (by decide) (by decide) (by decide)).lower hb0.size
    · exact ((OwnH.elsewhere HO2.out gX1 q3 (by decide)).elsewhere gX qX1 (by decide)).lower hc1.size
  clear h2 hr K2 q3 qX qX1 hX hX1 gX gX1 o2
  go_wp2
  rw [← HX.out]
  obtain ⟨z0, z1⟩ := HX0.out
  refine bodyPost_ret (v := .agg #[.slice va vn vc, .slice ua un uc]) (by simp [results, Try.results23, go_sem, z0, z1]) rfl ?_
  exact ⟨HBX.out, Or.inl ⟨(k, o), l2, _, by rw [H1.out, H2.out], rfl, HVal.out, HRX.out⟩⟩
end Go.Proofs.Ytcgpgflnihjpiag
