/- The reader of bytes: rows, numbers and heads, and lists of them. -/
import Derived.Test.YtcgpgflnihjpiagRdrG
import Derived.Test.YtcgpgflnihjpiagByt2
import Derived.Test.YtcgpgflnihjpiagAp2
namespace Go.Proofs.Ytcgpgflnihjpiag
open Go.RowKit

def isRow (r : Int × Int) (v : Value) (_ : World) : Prop := v = .agg #[.int .i64 r.1, .int .i64 r.2]
def isHd (h : M.By × Int) (v : Value) (_ : World) : Prop := v = .agg #[.string (M.str h.1), .int .i64 h.2]
def isRows (base : Nat) (xs : List (Int × Int)) (v : Value) (w : World) : Prop := Own w base v xs
def isInts (base : Nat) (xs : List Int) (v : Value) (w : World) : Prop := OwnI w base v xs
def isHds (base : Nat) (xs : List (M.By × Int)) (v : Value) (w : World) : Prop := OwnH w base v (xs.map M.hdS)
theorem rd_one (w : World) (x y : Int) : Rd (w.alloc (.cells #[.int .i64 x, .int .i64 y] 56)) (some ⟨w.heap.size, 0, none⟩) 1 [(x, y)] := by
  refine ⟨rfl, Or.inr ⟨w.heap.size, 0, rfl, by simp, fun i hi => ?_⟩⟩
  obtain rfl : i = 0 := by omega
  simp [go_sem]
theorem hs_one (w : World) (s : ByteArray) (y : Int) (hs : s.size ≤ 9223372036854775807) : Hs (w.alloc (.cells #[.string s, .int .i64 y] 49)) (some ⟨w.heap.size, 0, none⟩) 1 [(s, y)] := by
  refine ⟨rfl, Or.inr ⟨w.heap.size, 0, rfl, by simp, fun i hi => ?_⟩⟩
  obtain rfl : i = 0 := by omega
  simp [go_sem, hs]

theorem M.rR_no1 {l : M.By} (h : M.rB l = none) : M.rR l = none := by unfold M.rR; rw [h]
theorem M.rR_at {l l1 : M.By} {k : Int} (h : M.rB l = some (k, l1)) : M.rR l = (match M.r2 l1 with | none => none | some (o, l2) => some ((k, o), l2)) := by
  unfold M.rR; rw [h]; rfl
set_option maxRecDepth 100000 in
set_option maxHeartbeats 4000000 in
theorem rrow_any (b : Nat) (l : M.By) (w : World) (h : RdAt w b l) :
    Calls Try.prog 52 #[.pointer (some ⟨b, 0, none⟩)] w fun e w' => Reads b w w' (M.rR l) isRow e := by
  obtain ⟨R, hR⟩ : ∃ R, R = w.heap.size := ⟨_, rfl⟩
  obtain ⟨W, hW⟩ : ∃ W, W = w.alloc (.cells #[.int .i64 0, .int .i64 0] 56) := ⟨_, rfl⟩
  have hb0 : But b w W := by rw [hW]; exact But.alloc _ _ _
  have q0 : W.heap[R]? = some (.cells #[.int .i64 0, .int .i64 0] 56 (0, 0)) := by rw [hW, hR]; exact heap_alloc_new _ _
  have hlt := h.lt
  have hW0 : RdAt W b l := h.later (by rw [hW]; exact (Below.refl _ _).alloc (Nat.le_refl _) _)
  have hbR : b ≠ R := by omega
  have HBR : Aside (b ≠ R) := hbR
  have K : Hid (Calls Try.prog 50 #[.pointer (some ⟨b, 0, none⟩)] W fun e w' => Reads b W w' (M.rB l) isInt e) := byte_any b l W hW0
  have HQ : Hid (W.heap[R]? = some (.cells #[.int .i64 0, .int .i64 0] 56 (0, 0))) := q0
  have HW : Hid (W = w.alloc (.cells #[.int .i64 0, .int .i64 0] 56)) := hW
  have HR : Aside (R = w.heap.size) := hR
  clear h hW hR q0 hW0 hlt hbR
  go_enter Try.func52, Try.ntmps52
  go_wp2_with fail
  rw [← HW.out, ← HR.out]
  refine K.out.mono ?_
  rintro e w1 ⟨hb1, ⟨k, l1, v, h1, rfl, rfl, hr⟩ | ⟨h1, rfl⟩⟩
  case inr =>
    have H1 : Hid (M.rB l = none) := h1
    clear h1 K
    unfold early
    go_wp2
    exact ⟨rfl, hb0.trans hb1, Or.inr ⟨M.rR_no1 H1.out, rfl⟩⟩
  have H1 : Hid (M.rR l = (match M.r2 l1 with | none => none | some (o, l2) => some ((k, o), l2))) := M.rR_at h1
  have K2 : Hid (Calls Try.prog 59 #[.pointer (some ⟨b, 0, none⟩)] w1 fun e w' => Reads b w1 w' (M.r2 l1) isInt e) := pair_any b l1 w1 hr
  have hc1 := hb0.trans hb1
  clear h1 hr K
  go_wp2_with fail
  refine K2.out.mono ?_
  rintro e w2 ⟨hb2, ⟨o, l2, v, h2, rfl, rfl, hr⟩ | ⟨h2, rfl⟩⟩
  case inr =>
    have H2 : Hid (M.r2 l1 = none) := h2
    clear h2 K2
    unfold early
    go_wp2
    exact ⟨rfl, hc1.trans hb2, Or.inr ⟨by rw [H1.out, H2.out], rfl⟩⟩
  have H2 : Hid (M.r2 l1 = some (o, l2)) := h2
  have hc2 := hc1.trans hb2
  have q3 : w2.heap[R]? = some (.cells #[.int .i64 0, .int .i64 0] 56 (0, 0)) := ((hb1.trans hb2).block R (Array.getElem?_eq_some_iff.1 HQ.out).1 (fun e => HBR.out (Option.some.inj e).symm)).trans HQ.out
  have y0 : w2.cell? ⟨R, 0, none⟩ = some (.int .i64 0) := by rw [cell_of_row _ _ _ _ _ _ q3]; rfl
  have y1 : w2.cell? ⟨R, 1, none⟩ = some (.int .i64 0) := by rw [cell_of_row _ _ _ _ _ _ q3]; rfl
  have f0 : w2.frozen? ⟨R, 0, none⟩ = false := frozen_of_row _ _ _ _ _ q3
  have f1 : w2.frozen? ⟨R, 1, none⟩ = false := frozen_of_row _ _ _ _ _ q3
  obtain ⟨X, hX⟩ : ∃ X, X = (w2.setCell ⟨R, 0, none⟩ (.int .i64 k)).setCell ⟨R, 1, none⟩ (.int .i64 o) := ⟨_, rfl⟩
  have qX : X.heap[R]? = some (.cells #[.int .i64 k, .int .i64 o] 56 (0, 0)) := by
    rw [hX, heap_setCell_same _ _ _ _ _ _ (heap_setCell_same _ _ _ _ _ _ q3)]; rfl
  have HX : Hid (X = (w2.setCell ⟨R, 0, none⟩ (.int .i64 k)).setCell ⟨R, 1, none⟩ (.int .i64 o)) := hX
  have HRX : Hid (RdAt X b l2) := by unfold Hid; rw [hX]; exact (hr.other HBR.out _).other HBR.out _
  have HBX : Hid (But b w X) := by unfold Hid; rw [hX]; exact (hc2.setNew (Nat.le_of_eq HR.out.symm) _).setNew (Nat.le_of_eq HR.out.symm) _
  have HX0 : Aside (X.cell? ⟨R, 0, none⟩ = some (.int .i64 k) ∧ X.cell? ⟨R, 1, none⟩ = some (.int .i64 o)) := ⟨by rw [cell_of_row _ _ _ _ _ _ qX]; rfl, by rw [cell_of_row _ _ _ _ _ _ qX]; rfl⟩
  clear h2 hr K2 q3 qX hX
  go_wp2
  rw [← HX.out]
  obtain ⟨z0, z1⟩ := HX0.out
  refine bodyPost_ret (v := .agg #[.int .i64 k, .int .i64 o]) (by simp [results, Try.results52, go_sem, z0, z1]) rfl ?_
  exact ⟨HBX.out, Or.inl ⟨(k, o), l2, _, by rw [H1.out, H2.out], rfl, rfl, HRX.out⟩⟩

theorem M.rHd_no1 {l : M.By} (h : M.rT l = none) : M.rHd l = none := by unfold M.rHd; rw [h]
theorem M.rHd_at {l l1 : M.By} {k : M.By} (h : M.rT l = some (k, l1)) : M.rHd l = (match M.rB l1 with | none => none | some (o, l2) => some ((k, o), l2)) := by
  unfold M.rHd; rw [h]; rfl
set_option maxRecDepth 100000 in
set_option maxHeartbeats 4000000 in
theorem rhead_any (b : Nat) (l : M.By) (w : World) (h : RdAt w b l) :
    Calls Try.prog 42 #[.pointer (some ⟨b, 0, none⟩)] w fun e w' => Reads b w w' (M.rHd l) isHd e := by
  obtain ⟨R, hR⟩ : ∃ R, R = w.heap.size := ⟨_, rfl⟩
  obtain ⟨W, hW⟩ : ∃ W, W = w.alloc (.cells #[.string ⟨#[]⟩, .int .i64 0] 49) := ⟨_, rfl⟩
  have hb0 : But b w W := by rw [hW]; exact But.alloc _ _ _
  have q0 : W.heap[R]? = some (.cells #[.string ⟨#[]⟩, .int .i64 0] 49 (0, 0)) := by rw [hW, hR]; exact heap_alloc_new _ _
  have hlt := h.lt
  have hW0 : RdAt W b l := h.later (by rw [hW]; exact (Below.refl _ _).alloc (Nat.le_refl _) _)
  have hbR : b ≠ R := by omega
  have HBR : Aside (b ≠ R) := hbR
  have K : Hid (Calls Try.prog 55 #[.pointer (some ⟨b, 0, none⟩)] W fun e w' => Reads b W w' (M.rT l) isStr e) := text_any b l W hW0
  have HQ : Hid (W.heap[R]? = some (.cells #[.string ⟨#[]⟩, .int .i64 0] 49 (0, 0))) := q0
  have HW : Hid (W = w.alloc (.cells #[.string ⟨#[]⟩, .int .i64 0] 49)) := hW
  have HR : Aside (R = w.heap.size) := hR
  clear h hW hR q0 hW0 hlt hbR
  go_enter Try.func42, Try.ntmps42
  go_wp2_with fail
  rw [← HW.out, ← HR.out]
  refine K.out.mono ?_
  rintro e w1 ⟨hb1, ⟨k, l1, v, h1, rfl, rfl, hr⟩ | ⟨h1, rfl⟩⟩
  case inr =>
    have H1 : Hid (M.rT l = none) := h1
    clear h1 K
    unfold early
    go_wp2
    exact ⟨rfl, hb0.trans hb1, Or.inr ⟨M.rHd_no1 H1.out, rfl⟩⟩
  have H1 : Hid (M.rHd l = (match M.rB l1 with | none => none | some (o, l2) => some ((k, o), l2))) := M.rHd_at h1
  have K2 : Hid (Calls Try.prog 50 #[.pointer (some ⟨b, 0, none⟩)] w1 fun e w' => Reads b w1 w' (M.rB l1) isInt e) := byte_any b l1 w1 hr
  have hc1 := hb0.trans hb1
  clear h1 hr K
  go_wp2_with fail
  refine K2.out.mono ?_
  rintro e w2 ⟨hb2, ⟨o, l2, v, h2, rfl, rfl, hr⟩ | ⟨h2, rfl⟩⟩
  case inr =>
    have H2 : Hid (M.rB l1 = none) := h2
    clear h2 K2
    unfold early
    go_wp2
    exact ⟨rfl, hc1.trans hb2, Or.inr ⟨by rw [H1.out, H2.out], rfl⟩⟩
  have H2 : Hid (M.rB l1 = some (o, l2)) := h2
  have hc2 := hc1.trans hb2
  have q3 : w2.heap[R]? = some (.cells #[.string ⟨#[]⟩, .int .i64 0] 49 (0, 0)) := ((hb1.trans hb2).block R (Array.getElem?_eq_some_iff.1 HQ.out).1 (fun e => HBR.out (Option.some.inj e).symm)).trans HQ.out
  have y0 : w2.cell? ⟨R, 0, none⟩ = some (.string ⟨#[]⟩) := by rw [cell_of_row _ _ _ _ _ _ q3]; rfl
  have y1 : w2.cell? ⟨R, 1, none⟩ = some (.int .i64 0) := by rw [cell_of_row _ _ _ _ _ _ q3]; rfl
  have f0 : w2.frozen? ⟨R, 0, none⟩ = false := frozen_of_row _ _ _ _ _ q3
  have f1 : w2.frozen? ⟨R, 1, none⟩ = false := frozen_of_row _ _ _ _ _ q3
  obtain ⟨sk, hsk⟩ : ∃ sk, sk = M.str k := ⟨_, rfl⟩
  have HSk : Hid (sk = M.str k) := hsk
  rw [← hsk]
  obtain ⟨X, hX⟩ : ∃ X, X = (w2.setCell ⟨R, 0, none⟩ (.string sk)).setCell ⟨R, 1, none⟩ (.int .i64 o) := ⟨_, rfl⟩
  have qX : X.heap[R]? = some (.cells #[.string sk, .int .i64 o] 49 (0, 0)) := by
    rw [hX, heap_setCell_same _ _ _ _ _ _ (heap_setCell_same _ _ _ _ _ _ q3)]; rfl
  have HX : Hid (X = (w2.setCell ⟨R, 0, none⟩ (.string sk)).setCell ⟨R, 1, none⟩ (.int .i64 o)) := hX
  have HRX : Hid (RdAt X b l2) := by unfold Hid; rw [hX]; exact (hr.other HBR.out _).other HBR.out _
  have HBX : Hid (But b w X) := by unfold Hid; rw [hX]; exact (hc2.setNew (Nat.le_of_eq HR.out.symm) _).setNew (Nat.le_of_eq HR.out.symm) _
  have HX0 : Aside (X.cell? ⟨R, 0, none⟩ = some (.string sk) ∧ X.cell? ⟨R, 1, none⟩ = some (.int .i64 o)) := ⟨by rw [cell_of_row _ _ _ _ _ _ qX]; rfl, by rw [cell_of_row _ _ _ _ _ _ qX]; rfl⟩
  clear h2 hr K2 q3 qX hX hsk
  go_wp2
  rw [← HX.out]
  obtain ⟨z0, z1⟩ := HX0.out
  refine bodyPost_ret (v := .agg #[.string sk, .int .i64 o]) (by simp [results, Try.results42, go_sem, z0, z1]) rfl ?_
  exact ⟨HBX.out, Or.inl ⟨(k, o), l2, _, by rw [H1.out, H2.out], rfl, by unfold isHd; rw [HSk.out], HRX.out⟩⟩

theorem rparent_any (b : Nat) (l : M.By) (w : World) (h : RdAt w b l) :
    Calls Try.prog 54 #[.pointer (some ⟨b, 0, none⟩)] w fun e w' => Reads b w w' (M.rB l) isInt e := by
  have K : Hid (Calls Try.prog 50 #[.pointer (some ⟨b, 0, none⟩)] w fun e w' => Reads b w w' (M.rB l) isInt e) := byte_any b l w h
  clear h
  go_enter Try.func54, Try.ntmps54
  go_wp2_with fail
  refine K.out.mono ?_
  rintro e w1 ⟨hb1, ⟨k, l1, v, h1, rfl, rfl, hr⟩ | ⟨h1, rfl⟩⟩
  · have H1 : Hid (M.rB l = some (k, l1)) := h1
    have HR : Hid (RdAt w1 b l1) := hr
    clear h1 hr K
    go_wp2
    go_ret
    exact ⟨hb1, Or.inl ⟨k, l1, _, H1.out, rfl, rfl, HR.out⟩⟩
  · have H1 : Hid (M.rB l = none) := h1
    clear h1 K
    unfold early
    go_wp2
    exact ⟨rfl, hb1, Or.inr ⟨H1.out, rfl⟩⟩

set_option maxRecDepth 100000 in
set_option maxHeartbeats 4000000 in
theorem lrow_any (b : Nat) (l : M.By) (w : World) (h : RdAt w b l) :
    Calls Try.prog 51 #[.pointer (some ⟨b, 0, none⟩), .func (.func 52) #[] #[]] w fun e w' => Reads b w w' (M.rL M.rR l) (isRows w.heap.size) e := by
  have K : Hid (Calls Try.prog 50 #[.pointer (some ⟨b, 0, none⟩)] w fun e w' => Reads b w w' (M.rB l) isInt e) := byte_any b l w h
  have hlt := h.lt
  clear h
  go_enter Try.func51, Try.ntmps51
  go_wp2_with fail
  refine K.out.mono ?_
  rintro e w1 ⟨hb1, ⟨k, l1, v, h1, rfl, rfl, hr⟩ | ⟨h1, rfl⟩⟩
  case inr =>
    have H1 : Hid (M.rB l = none) := h1
    clear h1 K
    unfold early
    go_wp2
    exact ⟨rfl, hb1, Or.inr ⟨by unfold M.rL; rw [H1.out], rfl⟩⟩
  have hk := M.rB_range h1
  obtain ⟨n, rfl⟩ : ∃ n : Nat, k = (n : Int) := ⟨k.toNat, by omega⟩
  have H1 : Hid (M.rL M.rR l = M.rN M.rR n l1) := by unfold Hid M.rL; rw [h1]; rfl
  have hn : n < 256 := by omega
  have HR0 : Aside (RdAt w1 b l1) := hr
  clear h1 hr K hk
  go_wp2_with fail
  go_loopg [8, 5] n (fun g i v wr => ∃ (k : Nat) (xs : List (Int × Int)) (t : M.By), k + g = n ∧ i = .int .i64 k ∧ Aside (M.rN M.rR k l1 = some (xs, t)) ∧ Aside (xs.length = k) ∧ Aside (isRows w.heap.size xs v wr) ∧ Aside (RdAt wr b t) ∧ But b w wr)
  case atStart => exact ⟨0, [], l1, by omega, rfl, rfl, rfl, World.ownsRow_nil _ _ _ _, HR0, hb1⟩
  case round =>
    obtain ⟨k, xs, t, hkg, rfl, HN, HL, HO, HRt, hbw⟩ := hrel
    by_cases hkn : k < n
    · have hki : (k : Int) < (n : Int) := by omega
      have K2 : Hid (Calls Try.prog 52 #[.pointer (some ⟨b, 0, none⟩)] wr fun e w' => Reads b wr w' (M.rR t) isRow e) := rrow_any b t wr HRt.out
      go_wp2_with fail
      refine K2.out.mono ?_
      rintro e w2 ⟨hb2, ⟨c, t2, v, h2, rfl, rfl, hr⟩ | ⟨h2, rfl⟩⟩
      · have HN2 : Aside (M.rN M.rR (k + 1) l1 = some (xs ++ [c], t2)) := by unfold Aside; rw [M.rN_snoc, HN.out]; simp only; rw [h2]
        have HL2 : Aside ((xs ++ [c]).length = k + 1) := by unfold Aside; rw [List.length_append, HL.out]; rfl
        obtain ⟨c0, c1⟩ := c
        have hs2 : w.heap.size ≤ w2.heap.size := (hbw.trans hb2).size
        have HOA : Hid (Own (w2.alloc (.cells #[.int .i64 c0, .int .i64 c1] 56)) w.heap.size u5 xs) := World.ownsRow.alloc (ownsRow_but HO.out hb2 hlt) _
        have HR2 : Hid (RdAt w2 b t2) := hr
        have hbig : xs.length + 1 ≤ 1000000 := by rw [HL.out]; omega
        clear h2 hr K2
        go_wp2_with (at_builtin; refine append_rd rfl _ _ rfl w.heap.size _ xs rfl HOA.out (some ⟨w2.heap.size, 0, none⟩) 1 1 [(c0, c1)] rfl (rd_one w2 _ _) (fun h => by simp at h) hbig (by simp; omega) ?_)
        intro v' w3 ho' hb4
        have qb3 : Below w.heap.size w2 w3 := ((Below.refl _ _).alloc hs2 _).trans hb4
        have HO3 : Aside (isRows w.heap.size (xs ++ [(c0, c1)]) v' w3) := ho'
        have HR3 : Aside (RdAt w3 b t2) := HR2.out.keep qb3 hlt
        have hbw3 : But b w w3 := (hbw.trans hb2).then qb3
        clear ho' hb4 HOA qb3
        go_wp2
        go_roundg (gk - 1)
        case measure => omega
        case rel => exact ⟨k + 1, _, t2, by omega, by go_num, HN2, HL2, HO3, HR3, hbw3⟩
      · have H2 : Hid (M.rN M.rR n l1 = none) := by
          have : M.rN M.rR (k + 1) l1 = none := by rw [M.rN_snoc, HN.out]; simp only; rw [h2]
          exact M.rN_none _ _ _ _ this (by omega)
        clear h2 K2
        unfold early
        go_wp2
        exact ⟨rfl, hbw.trans hb2, Or.inr ⟨by rw [H1.out, H2.out], rfl⟩⟩
    · obtain rfl : k = n := by omega
      have hkk2 : decide ((k : Int) < (k : Int)) = false := by simp
      go_wp2
      go_ret
      exact ⟨hbw, Or.inl ⟨xs, t, _, by rw [H1.out]; exact HN.out, rfl, HO.out, HRt.out⟩⟩

set_option maxRecDepth 100000 in
set_option maxHeartbeats 4000000 in
theorem lint_any (b : Nat) (l : M.By) (w : World) (h : RdAt w b l) :
    Calls Try.prog 53 #[.pointer (some ⟨b, 0, none⟩), .func (.func 54) #[] #[]] w fun e w' => Reads b w w' (M.rL M.rB l) (isInts w.heap.size) e := by
  have K : Hid (Calls Try.prog 50 #[.pointer (some ⟨b, 0, none⟩)] w fun e w' => Reads b w w' (M.rB l) isInt e) := byte_any b l w h
  have hlt := h.lt
  clear h
  go_enter Try.func53, Try.ntmps53
  go_wp2_with fail
  refine K.out.mono ?_
  rintro e w1 ⟨hb1, ⟨k, l1, v, h1, rfl, rfl, hr⟩ | ⟨h1, rfl⟩⟩
  case inr =>
    have H1 : Hid (M.rB l = none) := h1
    clear h1 K
    unfold early
    go_wp2
    exact ⟨rfl, hb1, Or.inr ⟨by unfold M.rL; rw [H1.out], rfl⟩⟩
  have hk := M.rB_range h1
  obtain ⟨n, rfl⟩ : ∃ n : Nat, k = (n : Int) := ⟨k.toNat, by omega⟩
  have H1 : Hid (M.rL M.rB l = M.rN M.rB n l1) := by unfold Hid M.rL; rw [h1]; rfl
  have hn : n < 256 := by omega
  have HR0 : Aside (RdAt w1 b l1) := hr
  clear h1 hr K hk
  go_wp2_with fail
  go_loopg [8, 5] n (fun g i v wr => ∃ (k : Nat) (xs : List (Int)) (t : M.By), k + g = n ∧ i = .int .i64 k ∧ Aside (M.rN M.rB k l1 = some (xs, t)) ∧ Aside (xs.length = k) ∧ Aside (isInts w.heap.size xs v wr) ∧ Aside (RdAt wr b t) ∧ But b w wr)
  case atStart => exact ⟨0, [], l1, by omega, rfl, rfl, rfl, World.ownsRow_nil _ _ _ _, HR0, hb1⟩
  case round =>
    obtain ⟨k, xs, t, hkg, rfl, HN, HL, HO, HRt, hbw⟩ := hrel
    by_cases hkn : k < n
    · have hki : (k : Int) < (n : Int) := by omega
      have K2 : Hid (Calls Try.prog 54 #[.pointer (some ⟨b, 0, none⟩)] wr fun e w' => Reads b wr w' (M.rB t) isInt e) := rparent_any b t wr HRt.out
      go_wp2_with fail
      refine K2.out.mono ?_
      rintro e w2 ⟨hb2, ⟨c, t2, v, h2, rfl, rfl, hr⟩ | ⟨h2, rfl⟩⟩
      · have HN2 : Aside (M.rN M.rB (k + 1) l1 = some (xs ++ [c], t2)) := by unfold Aside; rw [M.rN_snoc, HN.out]; simp only; rw [h2]
        have HL2 : Aside ((xs ++ [c]).length = k + 1) := by unfold Aside; rw [List.length_append, HL.out]; rfl
        have hs2 : w.heap.size ≤ w2.heap.size := (hbw.trans hb2).size
        have HOA : Hid (OwnI (w2.alloc (.cells #[.int .i64 c] 3)) w.heap.size u5 xs) := World.ownsRow.alloc (ownsRow_but HO.out hb2 hlt) _
        have HR2 : Hid (RdAt w2 b t2) := hr
        have hbig : xs.length + 1 ≤ 1000000 := by rw [HL.out]; omega
        clear h2 hr K2
        go_wp2_with (at_builtin; refine append_ri rfl _ _ rfl w.heap.size _ xs rfl HOA.out w2.heap.size 1 1 [c] rfl rfl (ri_one w2 _) hbig (by simp; omega) ?_)
        intro v' w3 ho' hb4 _
        have qb3 : Below w.heap.size w2 w3 := ((Below.refl _ _).alloc hs2 _).trans hb4
        have HO3 : Aside (isInts w.heap.size (xs ++ [c]) v' w3) := ho'
        have HR3 : Aside (RdAt w3 b t2) := HR2.out.keep qb3 hlt
        have hbw3 : But b w w3 := (hbw.trans hb2).then qb3
        clear ho' hb4 HOA qb3
        go_wp2
        go_roundg (gk - 1)
        case measure => omega
        case rel => exact ⟨k + 1, _, t2, by omega, by go_num, HN2, HL2, HO3, HR3, hbw3⟩
      · have H2 : Hid (M.rN M.rB n l1 = none) := by
          have : M.rN M.rB (k + 1) l1 = none := by rw [M.rN_snoc, HN.out]; simp only; rw [h2]
          exact M.rN_none _ _ _ _ this (by omega)
        clear h2 K2
        unfold early
        go_wp2
        exact ⟨rfl, hbw.trans hb2, Or.inr ⟨by rw [H1.out, H2.out], rfl⟩⟩
    · obtain rfl : k = n := by omega
      have hkk2 : decide ((k : Int) < (k : Int)) = false := by simp
      go_wp2
      go_ret
      exact ⟨hbw, Or.inl ⟨xs, t, _, by rw [H1.out]; exact HN.out, rfl, HO.out, HRt.out⟩⟩

theorem M.rHd_name {l t : M.By} {h : M.By × Int} (e : M.rHd l = some (h, t)) : (M.str h.1).size ≤ 9223372036854775807 := by
  unfold M.rHd at e
  split at e
  · simp at e
  · rename_i n l1 h1
    split at e
    · simp at e
    · rename_i a l2 h2
      simp only [Option.some.injEq, Prod.mk.injEq] at e
      obtain ⟨rfl, _⟩ := e
      rw [M.str_size]
      have := (M.rT_inv h1).2
      show n.length ≤ _
      omega

set_option maxRecDepth 100000 in
set_option maxHeartbeats 4000000 in
theorem lhead_any (b : Nat) (l : M.By) (w : World) (h : RdAt w b l) :
    Calls Try.prog 41 #[.pointer (some ⟨b, 0, none⟩), .func (.func 42) #[] #[]] w fun e w' => Reads b w w' (M.rL M.rHd l) (isHds w.heap.size) e := by
  have K : Hid (Calls Try.prog 50 #[.pointer (some ⟨b, 0, none⟩)] w fun e w' => Reads b w w' (M.rB l) isInt e) := byte_any b l w h
  have hlt := h.lt
  clear h
  go_enter Try.func41, Try.ntmps41
  go_wp2_with fail
  refine K.out.mono ?_
  rintro e w1 ⟨hb1, ⟨k, l1, v, h1, rfl, rfl, hr⟩ | ⟨h1, rfl⟩⟩
  case inr =>
    have H1 : Hid (M.rB l = none) := h1
    clear h1 K
    unfold early
    go_wp2
    exact ⟨rfl, hb1, Or.inr ⟨by unfold M.rL; rw [H1.out], rfl⟩⟩
  have hk := M.rB_range h1
  obtain ⟨n, rfl⟩ : ∃ n : Nat, k = (n : Int) := ⟨k.toNat, by omega⟩
  have H1 : Hid (M.rL M.rHd l = M.rN M.rHd n l1) := by unfold Hid M.rL; rw [h1]; rfl
  have hn : n < 256 := by omega
  have HR0 : Aside (RdAt w1 b l1) := hr
  clear h1 hr K hk
  go_wp2_with fail
  go_loopg [8, 5] n (fun g i v wr => ∃ (k : Nat) (xs : List (M.By × Int)) (t : M.By), k + g = n ∧ i = .int .i64 k ∧ Aside (M.rN M.rHd k l1 = some (xs, t)) ∧ Aside (xs.length = k) ∧ Aside (isHds w.heap.size xs v wr) ∧ Aside (RdAt wr b t) ∧ But b w wr)
  case atStart => exact ⟨0, [], l1, by omega, rfl, rfl, rfl, OwnH.nil _ _, HR0, hb1⟩
  case round =>
    obtain ⟨k, xs, t, hkg, rfl, HN, HL, HO, HRt, hbw⟩ := hrel
    by_cases hkn : k < n
    · have hki : (k : Int) < (n : Int) := by omega
      have K2 : Hid (Calls Try.prog 42 #[.pointer (some ⟨b, 0, none⟩)] wr fun e w' => Reads b wr w' (M.rHd t) isHd e) := rhead_any b t wr HRt.out
      go_wp2_with fail
      refine K2.out.mono ?_
      rintro e w2 ⟨hb2, ⟨c, t2, v, h2, rfl, rfl, hr⟩ | ⟨h2, rfl⟩⟩
      · have HN2 : Aside (M.rN M.rHd (k + 1) l1 = some (xs ++ [c], t2)) := by unfold Aside; rw [M.rN_snoc, HN.out]; simp only; rw [h2]
        have HL2 : Aside ((xs ++ [c]).length = k + 1) := by unfold Aside; rw [List.length_append, HL.out]; rfl
        obtain ⟨c0, c1⟩ := c
        have hsz := M.rHd_name h2
        obtain ⟨sk, hsk⟩ : ∃ sk, sk = M.str c0 := ⟨_, rfl⟩
        have HSk : Hid (sk = M.str c0) := hsk
        have hsz : sk.size ≤ 9223372036854775807 := by rw [hsk]; exact hsz
        have HEq : Hid ((xs ++ [(c0, c1)]).map M.hdS = xs.map M.hdS ++ [(sk, c1)]) := by unfold Hid; rw [hsk, List.map_append]; rfl
        simp only
        rw [← hsk]
        clear hsk
        have hs2 : w.heap.size ≤ w2.heap.size := (hbw.trans hb2).size
        have HOA : Hid (OwnH (w2.alloc (.cells #[.string sk, .int .i64 c1] 49)) w.heap.size u5 (xs.map M.hdS)) := ⟨World.ownsRow.alloc (ownsRow_but HO.out.1 hb2 hlt) _, HO.out.2⟩
        have HR2 : Hid (RdAt w2 b t2) := hr
        have hbig : xs.length + 1 ≤ 1000000 := by rw [HL.out]; omega
        clear h2 hr K2
        go_wp2_with (at_builtin; refine wpl_heads rfl _ _ rfl w.heap.size _ (xs.map M.hdS) rfl HOA.out (some ⟨w2.heap.size, 0, none⟩) 1 1 [(sk, c1)] rfl (hs_one w2 _ _ hsz) (fun h => by simp at h) (by rw [List.length_map]; exact hbig) (by simp; omega) ?_)
        intro v' w3 ho' hb4
        have qb3 : Below w.heap.size w2 w3 := ((Below.refl _ _).alloc hs2 _).trans ((Below.refl _ _).grown hb4 (by simp; omega) fun k hk => (World.ownsRow.lt HOA.out.1 k hk).1)
        rw [← HEq.out] at ho'
        have HO3 : Aside (isHds w.heap.size (xs ++ [(c0, c1)]) v' w3) := ho'
        have HR3 : Aside (RdAt w3 b t2) := HR2.out.keep qb3 hlt
        have hbw3 : But b w w3 := (hbw.trans hb2).then qb3
        clear ho' hb4 HOA qb3
        go_wp2
        go_roundg (gk - 1)
        case measure => omega
        case rel => exact ⟨k + 1, _, t2, by omega, by go_num, HN2, HL2, HO3, HR3, hbw3⟩
      · have H2 : Hid (M.rN M.rHd n l1 = none) := by
          have : M.rN M.rHd (k + 1) l1 = none := by rw [M.rN_snoc, HN.out]; simp only; rw [h2]
          exact M.rN_none _ _ _ _ this (by omega)
        clear h2 K2
        unfold early
        go_wp2
        exact ⟨rfl, hbw.trans hb2, Or.inr ⟨by rw [H1.out, H2.out], rfl⟩⟩
    · obtain rfl : k = n := by omega
      have hkk2 : decide ((k : Int) < (k : Int)) = false := by simp
      go_wp2
      go_ret
      exact ⟨hbw, Or.inl ⟨xs, t, _, by rw [H1.out]; exact HN.out, rfl, HO.out, HRt.out⟩⟩
end Go.Proofs.Ytcgpgflnihjpiag
