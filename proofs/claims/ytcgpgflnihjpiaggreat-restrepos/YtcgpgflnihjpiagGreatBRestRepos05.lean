/- The reader of bytes: acts; what ends too early is left by a panic, which is recovered. -/
import Derived.Test.YtcgpgflnihjpiagGreatBRestRepos04
import Derived.Test.YtcgpgflnihjpiagGreatBRestRepos03
import Derived.Defers
import Derived.Recover
import Derived.Laws.Pointers
import Derived.Deep.AppendLies
import Derived.Test.YtcgpgflnihjpiagGreatBRestRepos02
import Derived.Test.YtcgpgflnihjpiagGreatBRestRepos01
import Derived.Lib.Bytealg
import Derived.Shelf.Abstract
import Derived.Shelf.SlSortCmp.SmallK
import Derived.Lib.OthersKept
namespace Go.Proofs.YtcgpgflnihjpiagGreat
open Go.RowKit

def isAct (base : Nat) (x : M.Act) (v : Value) (w : World) : Prop := ∃ a m cap, v = actV x a m cap ∧ OwnC w base (.slice a m cap) x.chs
theorem M.rA_no1 {l : M.By} (h : M.rB l = none) : M.rA l = none := by unfold M.rA; rw [h]
theorem M.rA_at {l l1 : M.By} {k : Int} (h : M.rB l = some (k, l1)) : M.rA l = (match M.rT l1 with | none => none | some (o, l2) => match M.rT l2 with | none => none | some (n, l3) => match M.rL M.rC l3 with | none => none | some (c, l4) => some (⟨k, o, n, c⟩, l4)) := by
  unfold M.rA; rw [h]; rfl

set_option maxRecDepth 100000 in
set_option maxHeartbeats 4000000 in
theorem ract_any (b : Nat) (l : M.By) (w : World) (h : RdAt w b l) :
    Calls Tryz.prog 38 #[.pointer (some ⟨b, 0, none⟩)] w fun e w' => Reads b w w' (M.rA l) (isAct w.heap.size) e := by
  obtain ⟨R, hR⟩ : ∃ R, R = w.heap.size := ⟨_, rfl⟩
  obtain ⟨W, hW⟩ : ∃ W, W = w.alloc (.cells #[.int .i64 0, .string ⟨#[]⟩, .string ⟨#[]⟩, .slice none 0 0] 30) := ⟨_, rfl⟩
  have hb0 : But b w W := by rw [hW]; exact But.alloc _ _ _
  have q0 : W.heap[R]? = some (.cells #[.int .i64 0, .string ⟨#[]⟩, .string ⟨#[]⟩, .slice none 0 0] 30 (0, 0)) := by rw [hW, hR]; exact heap_alloc_new _ _
  have hlt := h.lt
  have hW0 : RdAt W b l := h.later (by rw [hW]; exact (Below.refl _ _).alloc (Nat.le_refl _) _)
  have hbR : b ≠ R := by omega
  have HBR : Aside (b ≠ R) := hbR
  have K : Hid (Calls Tryz.prog 63 #[.pointer (some ⟨b, 0, none⟩)] W fun e w' => Reads b W w' (M.rB l) isInt e) := byte_any b l W hW0
  have HQ : Hid (W.heap[R]? = some (.cells #[.int .i64 0, .string ⟨#[]⟩, .string ⟨#[]⟩, .slice none 0 0] 30 (0, 0))) := q0
  have HW : Hid (W = w.alloc (.cells #[.int .i64 0, .string ⟨#[]⟩, .string ⟨#[]⟩, .slice none 0 0] 30)) := hW
  have HR : Aside (R = w.heap.size) := hR
  clear h hW hR q0 hW0 hbR
  go_enter Tryz.func38, Tryz.ntmps38
  go_wp2_with fail
  rw [← HW.out, ← HR.out]
  refine K.out.mono ?_
  rintro e w1 ⟨hb1, ⟨k, l1, v, h1, rfl, rfl, hr⟩ | ⟨h1, rfl⟩⟩
  case inr =>
    have H1 : Hid (M.rB l = none) := h1
    clear h1 K
    unfold early
    go_wp2
    exact ⟨rfl, hb0.trans hb1, Or.inr ⟨M.rA_no1 H1.out, rfl⟩⟩
  have H1 : Hid (M.rA l = (match M.rT l1 with | none => none | some (o, l2) => match M.rT l2 with | none => none | some (n, l3) => match M.rL M.rC l3 with | none => none | some (c, l4) => some (⟨k, o, n, c⟩, l4))) := M.rA_at h1
  have K2 : Hid (Calls Tryz.prog 64 #[.pointer (some ⟨b, 0, none⟩)] w1 fun e w' => Reads b w1 w' (M.rT l1) isStr e) := text_any b l1 w1 hr
  have hc1 := hb0.trans hb1
  clear h1 hr K
  go_wp2_with fail
  refine K2.out.mono ?_
  rintro e w2 ⟨hb2, ⟨o, l2, v, h2, rfl, rfl, hr⟩ | ⟨h2, rfl⟩⟩
  case inr =>
    have H2 : Hid (M.rT l1 = none) := h2
    clear h2 K2
    unfold early
    go_wp2
    exact ⟨rfl, hc1.trans hb2, Or.inr ⟨by rw [H1.out, H2.out], rfl⟩⟩
  have H2 : Hid (M.rT l1 = some (o, l2)) := h2
  have K3 : Hid (Calls Tryz.prog 64 #[.pointer (some ⟨b, 0, none⟩)] w2 fun e w' => Reads b w2 w' (M.rT l2) isStr e) := text_any b l2 w2 hr
  have hc2 := hc1.trans hb2
  clear h2 hr K2
  go_wp2_with fail
  refine K3.out.mono ?_
  rintro e w3 ⟨hb3, ⟨n, l3, v, h3, rfl, rfl, hr⟩ | ⟨h3, rfl⟩⟩
  case inr =>
    have H3 : Hid (M.rT l2 = none) := h3
    clear h3 K3
    unfold early
    go_wp2
    exact ⟨rfl, hc2.trans hb3, Or.inr ⟨by rw [H1.out, H2.out]; simp only; rw [H3.out], rfl⟩⟩
  have H3 : Hid (M.rT l2 = some (n, l3)) := h3
  have K4 : Hid (Calls Tryz.prog 65 #[.pointer (some ⟨b, 0, none⟩), .func (.func 66) #[] #[]] w3 fun e w' => Reads b w3 w' (M.rL M.rC l3) (isChgs w3.heap.size) e) := lchange_any b l3 w3 hr
  have hc3 := hc2.trans hb3
  clear h3 hr K3
  go_wp2_with fail
  refine K4.out.mono ?_
  rintro e w4 ⟨hb4, ⟨c, l4, v, h4, rfl, oc, hr⟩ | ⟨h4, rfl⟩⟩
  case inr =>
    have H4 : Hid (M.rL M.rC l3 = none) := h4
    clear h4 K4
    unfold early
    go_wp2
    exact ⟨rfl, hc3.trans hb4, Or.inr ⟨by rw [H1.out, H2.out]; simp only; rw [H3.out]; simp only; rw [H4.out], rfl⟩⟩
  have H4 : Hid (M.rL M.rC l3 = some (c, l4)) := h4
  have hc4 := hc3.trans hb4
  obtain ⟨ca, cc, rfl, _⟩ := OwnC.rc oc
  obtain ⟨cn, hcn⟩ : ∃ cn, cn = c.length := ⟨_, rfl⟩
  have oc2 : OwnC w4 w3.heap.size (.slice ca cn cc) c := by rw [hcn]; exact oc
  rw [← hcn]
  have q4 : w4.heap[R]? = some (.cells #[.int .i64 0, .string ⟨#[]⟩, .string ⟨#[]⟩, .slice none 0 0] 30 (0, 0)) := ((((hb1.trans hb2).trans hb3).trans hb4).block R (Array.getElem?_eq_some_iff.1 HQ.out).1 (fun e => HBR.out (Option.some.inj e).symm)).trans HQ.out
  have y0 : w4.cell? ⟨R, 0, none⟩ = some (.int .i64 0) := by rw [cell_of_row _ _ _ _ _ _ q4]; rfl
  have y1 : w4.cell? ⟨R, 1, none⟩ = some (.string ⟨#[]⟩) := by rw [cell_of_row _ _ _ _ _ _ q4]; rfl
  have y2 : w4.cell? ⟨R, 2, none⟩ = some (.string ⟨#[]⟩) := by rw [cell_of_row _ _ _ _ _ _ q4]; rfl
  have y3 : w4.cell? ⟨R, 3, none⟩ = some (.slice none 0 0) := by rw [cell_of_row _ _ _ _ _ _ q4]; rfl
  have f0 : w4.frozen? ⟨R, 0, none⟩ = false := frozen_of_row _ _ _ _ _ q4
  have f1 : w4.frozen? ⟨R, 1, none⟩ = false := frozen_of_row _ _ _ _ _ q4
  have f2 : w4.frozen? ⟨R, 2, none⟩ = false := frozen_of_row _ _ _ _ _ q4
  have f3 : w4.frozen? ⟨R, 3, none⟩ = false := frozen_of_row _ _ _ _ _ q4
  obtain ⟨so, hso⟩ : ∃ so, so = M.str o := ⟨_, rfl⟩
  obtain ⟨sn, hsn⟩ : ∃ sn, sn = M.str n := ⟨_, rfl⟩
  rw [← hso, ← hsn]
  obtain ⟨X, hX⟩ : ∃ X, X = (((w4.setCell ⟨R, 0, none⟩ (.int .i64 k)).setCell ⟨R, 1, none⟩ (.string so)).setCell ⟨R, 2, none⟩ (.string sn)).setCell ⟨R, 3, none⟩ (.slice ca cn cc) := ⟨_, rfl⟩
  have qX : X.heap[R]? = some (.cells #[.int .i64 k, .string so, .string sn, .slice ca cn cc] 30 (0, 0)) := by
    rw [hX, heap_setCell_same _ _ _ _ _ _ (heap_setCell_same _ _ _ _ _ _ (heap_setCell_same _ _ _ _ _ _ (heap_setCell_same _ _ _ _ _ _ q4)))]; rfl
  have HX : Hid (X = (((w4.setCell ⟨R, 0, none⟩ (.int .i64 k)).setCell ⟨R, 1, none⟩ (.string so)).setCell ⟨R, 2, none⟩ (.string sn)).setCell ⟨R, 3, none⟩ (.slice ca cn cc)) := hX
  have HRX : Hid (RdAt X b l4) := by unfold Hid; rw [hX]; exact (((hr.other HBR.out _).other HBR.out _).other HBR.out _).other HBR.out _
  have HBX : Hid (But b w X) := by unfold Hid; rw [hX]; exact (((hc4.setNew (Nat.le_of_eq HR.out.symm) _).setNew (Nat.le_of_eq HR.out.symm) _).setNew (Nat.le_of_eq HR.out.symm) _).setNew (Nat.le_of_eq HR.out.symm) _
  have HAX : Hid (isAct w.heap.size ⟨k, o, n, c⟩ (.agg #[.int .i64 k, .string so, .string sn, .slice ca cn cc]) X) := by
    have g : ∀ (V : World) (i : Nat) (u : Value) (cur : Array Value), V.heap[R]? = some (.cells cur 30 (0, 0)) → OwnC V w3.heap.size (.slice ca cn cc) c → OwnC (V.setCell ⟨R, i, none⟩ u) w3.heap.size (.slice ca cn cc) c := fun V i u cur hV ho => ownsRow_elsewhere ho (grownBy_set V ⟨R, i, none⟩ u) fun r e cur' he => by
      cases e
      rw [show V.heap[R]? = _ from hV] at he
      simp at he
    refine ⟨ca, cn, cc, by rw [hso, hsn]; rfl, ?_⟩
    rw [hX]
    have e1 := heap_setCell_same w4 R 0 _ _ (.int .i64 k) q4
    have e2 := heap_setCell_same _ R 1 _ _ (.string so) e1
    have e3 := heap_setCell_same _ R 2 _ _ (.string sn) e2
    exact ownsRow_lower (g _ _ _ _ e3 (g _ _ _ _ e2 (g _ _ _ _ e1 (g _ _ _ _ q4 oc2)))) hc3.size
  have HX0 : Aside (X.cell? ⟨R, 0, none⟩ = some (.int .i64 k) ∧ X.cell? ⟨R, 1, none⟩ = some (.string so) ∧ X.cell? ⟨R, 2, none⟩ = some (.string sn) ∧ X.cell? ⟨R, 3, none⟩ = some (.slice ca cn cc)) := ⟨by rw [cell_of_row _ _ _ _ _ _ qX]; rfl, by rw [cell_of_row _ _ _ _ _ _ qX]; rfl, by rw [cell_of_row _ _ _ _ _ _ qX]; rfl, by rw [cell_of_row _ _ _ _ _ _ qX]; rfl⟩
  clear h4 hr K4 q4 qX hX oc oc2 hso hsn hcn
  go_wp2
  rw [← HX.out]
  obtain ⟨z0, z1, z2, z3⟩ := HX0.out
  refine bodyPost_ret (v := .agg #[.int .i64 k, .string so, .string sn, .slice ca cn cc]) (by simp [results, Tryz.results38, go_sem, z0, z1, z2, z3]) rfl ?_
  exact ⟨HBX.out, Or.inl ⟨⟨k, o, n, c⟩, l4, _, by rw [H1.out, H2.out]; simp only; rw [H3.out]; simp only; rw [H4.out], rfl, HAX.out, HRX.out⟩⟩

theorem run_assert (xt : TypeId) (w : World) : Sem.run Tryz.prog (Instr.typeAssert (.iface 25 (.int .i64 1)) xt 25 false) w = .ok (.int .i64 1) w := by
  simp [Instr.typeAssert, go_sem]
set_option maxRecDepth 100000 in
theorem catch_panicking (p : Addr) (x : Int) (older : List PanicEntry) (w : World) (hc : w.cell? p = some (.int .i64 x)) (hz : w.frozen? p = false) :
    CallsD Tryz.prog 62 #[.pointer (some p)] (.panicking ({ v := .iface 25 (.int .i64 1), recovered := false } :: older)) w fun e u' w' =>
      e = .returned (.tuple #[]) ∧ u' = .panicking ({ v := .iface 25 (.int .i64 1), recovered := true } :: older) ∧ w' = w.setCell p (.int .i64 1) := by
  refine callsD_of_wpS Tryz.func62 rfl fun c₀ cs hu => ?_
  apply wpS_seq
  apply wpS_region
  simp [wpOpsS, go_sem, recoverD, hu, Tryz.ntmps62, Exit.thenS]
  apply wpS_seq
  apply wpS_region
  simp [wpOpsS, go_sem, Exit.thenS]
  refine wpS_cond (t := true) (by simp [Act.eval]) ?_
  simp only [if_true]
  apply wpS_region
  simp [wpOpsS, go_sem, run_assert, hc, hz, bodyPostS, results, Tryz.results62]
set_option maxRecDepth 100000 in
theorem catch_idle (p : Addr) (w : World) :
    CallsD Tryz.prog 62 #[.pointer (some p)] .returning w fun e u' w' => e = .returned (.tuple #[]) ∧ u' = .returning ∧ w' = w := by
  refine callsD_of_wpS Tryz.func62 rfl fun c₀ cs hu => ?_
  apply wpS_seq
  apply wpS_region
  simp [wpOpsS, go_sem, recoverD, hu, Tryz.ntmps62, Exit.thenS]
  apply wpS_seq
  apply wpS_region
  simp [wpOpsS, go_sem, Exit.thenS]
  refine wpS_cond (t := false) (by simp [Act.eval]) ?_
  simp only [Bool.false_eq_true, if_false]
  refine wpS_of_wp (wp_skip ?_)
  cases c₀
  simp_all [bodyPostS, results, Tryz.results62]

set_option maxRecDepth 100000 in
set_option maxHeartbeats 4000000 in
theorem readA_any (l : M.By) (w : World) (hl : l.length ≤ 1000000) :
    Calls Tryz.prog 37 #[.string (M.str l), .func (.func 38) #[] #[]] w fun e w' => Below w.heap.size w w' ∧
      ((∃ x t v, M.rA l = some (x, t) ∧ e = .returned (.tuple #[v, .int .i64 ((l.length - t.length : Nat) : Int), .int .i64 0]) ∧ isAct w.heap.size x v w') ∨
       (M.rA l = none ∧ e = .returned (.tuple #[.agg #[.int .i64 0, .string ⟨#[]⟩, .string ⟨#[]⟩, .slice none 0 0], .int .i64 0, .int .i64 1]))) := by
  have hmf : ∀ (fn : Fn) (first cap : Array Value) (w : World), (Instr.makeFunc fn first cap).run Tryz.prog w = .ok (.func fn first cap) w := fun _ _ _ _ => rfl
  obtain ⟨s, hs⟩ : ∃ s, s = M.str l := ⟨_, rfl⟩
  obtain ⟨p, hp⟩ : ∃ p, p = w.heap.size := ⟨_, rfl⟩
  obtain ⟨W, hW⟩ : ∃ W, W = ((w.alloc (.cells #[.int .i64 0, .string ⟨#[]⟩, .string ⟨#[]⟩, .slice none 0 0] 30)).alloc (.cells #[.int .i64 0] 25)).alloc (.cells #[.string s] 101) := ⟨_, rfl⟩
  have hb : Below w.heap.size w W := by rw [hW]; exact (((Below.refl _ _).alloc (Nat.le_refl _) _).alloc (by simp) _).alloc (by simp; omega) _
  have hR0 : RdAt W (p + 1 + 1) l := ⟨by rw [hW, hp, ← hs, show w.heap.size + 1 + 1 = ((w.alloc (.cells #[.int .i64 0, .string ⟨#[]⟩, .string ⟨#[]⟩, .slice none 0 0] 30)).alloc (.cells #[.int .i64 0] 25)).heap.size by simp]; exact heap_alloc_new _ _, by omega⟩
  have K : Hid (Calls Tryz.prog 38 #[.pointer (some ⟨p + 1 + 1, 0, none⟩)] W fun e w' => Reads (p + 1 + 1) W w' (M.rA l) (isAct W.heap.size) e) := ract_any (p + 1 + 1) l W hR0
  have HW : Hid (W = ((w.alloc (.cells #[.int .i64 0, .string ⟨#[]⟩, .string ⟨#[]⟩, .slice none 0 0] 30)).alloc (.cells #[.int .i64 0] 25)).alloc (.cells #[.string s] 101)) := hW
  have HP : Aside (p = w.heap.size) := hp
  rw [← hs]
  have HS : Aside (s.size = l.length) := by unfold Aside; rw [hs, M.str_size]
  clear hW hp hR0 hs
  go_enter_defers Tryz.func37, Tryz.ntmps37
  go_wp2_with fail
  rw [← HW.out, ← HP.out]
  refine K.out.mono ?_
  rintro e w1 ⟨hb1, ⟨x, t, v, h1, rfl, ha, hr⟩ | ⟨h1, rfl⟩⟩
  · obtain ⟨ca, cn, cc, rfl, oc⟩ := ha
    unfold actV
    obtain ⟨kd, hkd⟩ : ∃ kd, kd = x.kind := ⟨_, rfl⟩
    obtain ⟨so, hso⟩ : ∃ so, so = M.str x.one := ⟨_, rfl⟩
    obtain ⟨st, hst⟩ : ∃ st, st = M.str x.two := ⟨_, rfl⟩
    obtain ⟨r, hrr⟩ : ∃ r, r = M.str t := ⟨_, rfl⟩
    rw [← hkd, ← hso, ← hst]
    have hsW : W.heap.size = p + 1 + 1 + 1 := by rw [HW.out, HP.out]; simp
    have q0 : W.heap[p]? = some (.cells #[.int .i64 0, .string ⟨#[]⟩, .string ⟨#[]⟩, .slice none 0 0] 30 (0, 0)) := by
      rw [HW.out, HP.out, Below.heap_alloc _ _ _ (by simp; omega), Below.heap_alloc _ _ _ (by simp)]; exact heap_alloc_new _ _
    have q1 : W.heap[p + 1]? = some (.cells #[.int .i64 0] 25 (0, 0)) := by
      rw [HW.out, HP.out, Below.heap_alloc _ _ _ (by simp), show w.heap.size + 1 = (w.alloc (.cells #[.int .i64 0, .string ⟨#[]⟩, .string ⟨#[]⟩, .slice none 0 0] 30)).heap.size by simp]; exact heap_alloc_new _ _
    have e0 : w1.heap[p]? = some (.cells #[.int .i64 0, .string ⟨#[]⟩, .string ⟨#[]⟩, .slice none 0 0] 30 (0, 0)) := (hb1.block p (by omega) (by simp; omega)).trans q0
    have e1 : w1.heap[p + 1]? = some (.cells #[.int .i64 0] 25 (0, 0)) := (hb1.block (p + 1) (by omega) (by simp)).trans q1
    have y0 : w1.cell? ⟨p, 0, none⟩ = some (.int .i64 0) := by rw [cell_of_row _ _ _ _ _ _ e0]; rfl
    have y1 : w1.cell? ⟨p, 1, none⟩ = some (.string ⟨#[]⟩) := by rw [cell_of_row _ _ _ _ _ _ e0]; rfl
    have y2 : w1.cell? ⟨p, 2, none⟩ = some (.string ⟨#[]⟩) := by rw [cell_of_row _ _ _ _ _ _ e0]; rfl
    have y3 : w1.cell? ⟨p, 3, none⟩ = some (.slice none 0 0) := by rw [cell_of_row _ _ _ _ _ _ e0]; rfl
    have f0 : w1.frozen? ⟨p, 0, none⟩ = false := frozen_of_row _ _ _ _ _ e0
    have f1 : w1.frozen? ⟨p, 1, none⟩ = false := frozen_of_row _ _ _ _ _ e0
    have f2 : w1.frozen? ⟨p, 2, none⟩ = false := frozen_of_row _ _ _ _ _ e0
    have f3 : w1.frozen? ⟨p, 3, none⟩ = false := frozen_of_row _ _ _ _ _ e0
    obtain ⟨X, hX⟩ : ∃ X, X = (((w1.setCell ⟨p, 0, none⟩ (.int .i64 kd)).setCell ⟨p, 1, none⟩ (.string so)).setCell ⟨p, 2, none⟩ (.string st)).setCell ⟨p, 3, none⟩ (.slice ca cn cc) := ⟨_, rfl⟩
    have qX : X.heap[p]? = some (.cells #[.int .i64 kd, .string so, .string st, .slice ca cn cc] 30 (0, 0)) := by
      rw [hX, heap_setCell_same _ _ _ _ _ _ (heap_setCell_same _ _ _ _ _ _ (heap_setCell_same _ _ _ _ _ _ (heap_setCell_same _ _ _ _ _ _ e0)))]; rfl
    have oth : ∀ k, k ≠ p → X.heap[k]? = w1.heap[k]? := fun k hk => by
      rw [hX, heap_setCell_other _ _ _ _ (by exact hk), heap_setCell_other _ _ _ _ (by exact hk), heap_setCell_other _ _ _ _ (by exact hk), heap_setCell_other _ _ _ _ (by exact hk)]
    have qX1 : X.heap[p + 1]? = some (.cells #[.int .i64 0] 25 (0, 0)) := (oth (p + 1) (by omega)).trans e1
    have rX : X.cell? ⟨p + 1 + 1, 0, none⟩ = some (.string r) := by rw [World.cell?_of_block (a := ⟨p + 1 + 1, 0, none⟩) (oth (p + 1 + 1) (by omega)), hr.cell, hrr]
    have HX : Hid (X = (((w1.setCell ⟨p, 0, none⟩ (.int .i64 kd)).setCell ⟨p, 1, none⟩ (.string so)).setCell ⟨p, 2, none⟩ (.string st)).setCell ⟨p, 3, none⟩ (.slice ca cn cc)) := hX
    have x0 : X.cell? ⟨p, 0, none⟩ = some (.int .i64 kd) := by rw [cell_of_row _ _ _ _ _ _ qX]; rfl
    have x1 : X.cell? ⟨p, 1, none⟩ = some (.string so) := by rw [cell_of_row _ _ _ _ _ _ qX]; rfl
    have x2 : X.cell? ⟨p, 2, none⟩ = some (.string st) := by rw [cell_of_row _ _ _ _ _ _ qX]; rfl
    have x3 : X.cell? ⟨p, 3, none⟩ = some (.slice ca cn cc) := by rw [cell_of_row _ _ _ _ _ _ qX]; rfl
    have g0 : X.frozen? ⟨p, 0, none⟩ = false := frozen_of_row _ _ _ _ _ qX
    have g1 : X.frozen? ⟨p, 1, none⟩ = false := frozen_of_row _ _ _ _ _ qX
    have g2 : X.frozen? ⟨p, 2, none⟩ = false := frozen_of_row _ _ _ _ _ qX
    have g3 : X.frozen? ⟨p, 3, none⟩ = false := frozen_of_row _ _ _ _ _ qX
    have x4 : X.cell? ⟨p + 1, 0, none⟩ = some (.int .i64 0) := by rw [cell_of_row _ _ _ _ _ _ qX1]; rfl
    have g4 : X.frozen? ⟨p + 1, 0, none⟩ = false := frozen_of_row _ _ _ _ _ qX1
    obtain ⟨L, hL⟩ : ∃ L, s.size = L := ⟨_, rfl⟩
    obtain ⟨M', hM'⟩ : ∃ M', r.size = M' := ⟨_, rfl⟩
    have hLl : L = l.length := by rw [← hL, HS.out]
    have hMt : M' = t.length := by rw [← hM', hrr, M.str_size]
    have htl : t.length ≤ l.length := by have := M.rA_less h1; omega
    have hwr : IntKind.i64.wrap ((L : Int) - (M' : Int)) = ((L - M' : Nat) : Int) := by rw [IntKind.wrap_i64]; omega
    have HLM : Hid (L - M' = l.length - t.length) := by unfold Hid; rw [hLl, hMt]
    have H1 : Hid (M.rA l = some (x, t)) := h1
    have HKd : Aside (kd = x.kind ∧ so = M.str x.one ∧ st = M.str x.two) := ⟨hkd, hso, hst⟩
    have HOC : Hid (OwnC w1 W.heap.size (.slice ca cn cc) x.chs) := oc
    have HE0 : Hid (w1.heap[p]? = some (.cells #[.int .i64 0, .string ⟨#[]⟩, .string ⟨#[]⟩, .slice none 0 0] 30 (0, 0))) := e0
    have HQX : Hid (X.heap[p]? = some (.cells #[.int .i64 kd, .string so, .string st, .slice ca cn cc] 30 (0, 0)) ∧ X.heap[p + 1]? = some (.cells #[.int .i64 0] 25 (0, 0))) := ⟨qX, qX1⟩
    clear hLl hMt htl h1 hX hr oth qX qX1 e0 e1 q0 q1 hsW hrr hkd hso hst oc
    go_wp2_with fail
    rw [← HX.out]
    go_region
    obtain ⟨Z, hZ⟩ : ∃ Z, Z = (((((X.setCell ⟨p, 0, none⟩ (.int .i64 kd)).setCell ⟨p, 1, none⟩ (.string so)).setCell ⟨p, 2, none⟩ (.string st)).setCell ⟨p, 3, none⟩ (.slice ca cn cc)).setCell ⟨p + 1, 0, none⟩ (.int .i64 0)).drew := ⟨_, rfl⟩
    have d1 := heap_setCell_same X p 0 _ _ (.int .i64 kd) HQX.out.1
    have d2 := heap_setCell_same _ p 1 _ _ (.string so) d1
    have d3 := heap_setCell_same _ p 2 _ _ (.string st) d2
    have d4 := heap_setCell_same _ p 3 _ _ (.slice ca cn cc) d3
    have zp : Z.heap[p]? = some (.cells #[.int .i64 kd, .string so, .string st, .slice ca cn cc] 30 (0, 0)) := by
      rw [hZ]
      show (World.setCell _ _ _).heap[p]? = _
      rw [heap_setCell_other _ _ _ _ (by show p ≠ p + 1; omega), d4]; rfl
    have c4 : ((((X.setCell ⟨p, 0, none⟩ (.int .i64 kd)).setCell ⟨p, 1, none⟩ (.string so)).setCell ⟨p, 2, none⟩ (.string st)).setCell ⟨p, 3, none⟩ (.slice ca cn cc)).heap[p + 1]? = some (.cells #[.int .i64 0] 25 (0, 0)) := by
      rw [heap_setCell_other _ _ _ _ (by show p + 1 ≠ p; omega), heap_setCell_other _ _ _ _ (by show p + 1 ≠ p; omega), heap_setCell_other _ _ _ _ (by show p + 1 ≠ p; omega), heap_setCell_other _ _ _ _ (by show p + 1 ≠ p; omega)]
      exact HQX.out.2
    have zp1 : Z.heap[p + 1]? = some (.cells #[.int .i64 0] 25 (0, 0)) := by
      rw [hZ]
      show (World.setCell _ _ _).heap[p + 1]? = _
      rw [heap_setCell_same _ _ _ _ _ _ c4]; rfl
    have oth : ∀ k, k ≠ p → k ≠ p + 1 → Z.heap[k]? = w1.heap[k]? := fun k hk hk1 => by
      rw [hZ]
      show (World.setCell _ _ _).heap[k]? = _
      rw [heap_setCell_other _ _ _ _ (by exact hk1), heap_setCell_other _ _ _ _ (by exact hk), heap_setCell_other _ _ _ _ (by exact hk), heap_setCell_other _ _ _ _ (by exact hk), heap_setCell_other _ _ _ _ (by exact hk), HX.out, heap_setCell_other _ _ _ _ (by exact hk), heap_setCell_other _ _ _ _ (by exact hk), heap_setCell_other _ _ _ _ (by exact hk), heap_setCell_other _ _ _ _ (by exact hk)]
    have hsW : W.heap.size = p + 1 + 1 + 1 := by rw [HW.out, HP.out]; simp
    have bw1 : Below w.heap.size w w1 := hb.trans (hb1.below (by omega) |>.mono (by have := HP.out; omega))
    have hpw : w.heap.size ≤ p := by have := HP.out; omega
    have bZ : Below w.heap.size w Z := by
      rw [hZ, HX.out]
      refine Below.drew ?_
      exact ((((((((bw1.setCell (p := ⟨p, 0, none⟩) hpw _).setCell (p := ⟨p, 1, none⟩) hpw _).setCell (p := ⟨p, 2, none⟩) hpw _).setCell (p := ⟨p, 3, none⟩) hpw _).setCell (p := ⟨p, 0, none⟩) hpw _).setCell (p := ⟨p, 1, none⟩) hpw _).setCell (p := ⟨p, 2, none⟩) hpw _).setCell (p := ⟨p, 3, none⟩) hpw _).setCell (p := ⟨p + 1, 0, none⟩) (by show _ ≤ p + 1; omega) _
    have HAZ : Hid (isAct w.heap.size x (.agg #[.int .i64 kd, .string so, .string st, .slice ca cn cc]) Z) := by
      refine ⟨ca, cn, cc, by rw [HKd.out.1, HKd.out.2.1, HKd.out.2.2]; rfl, ?_⟩
      refine ownsRow_lower (keep_row HOC.out fun k hk e => oth k ?_ ?_) hb.size
      · have := (World.ownsRow.lt HOC.out k e).1; omega
      · have := (World.ownsRow.lt HOC.out k e).1; omega
    have HBZ : Hid (Below w.heap.size w Z) := bZ
    have u0 : Z.cell? ⟨p, 0, none⟩ = some (.int .i64 kd) := by rw [cell_of_row _ _ _ _ _ _ zp]; rfl
    have u1 : Z.cell? ⟨p, 1, none⟩ = some (.string so) := by rw [cell_of_row _ _ _ _ _ _ zp]; rfl
    have u2 : Z.cell? ⟨p, 2, none⟩ = some (.string st) := by rw [cell_of_row _ _ _ _ _ _ zp]; rfl
    have u3 : Z.cell? ⟨p, 3, none⟩ = some (.slice ca cn cc) := by rw [cell_of_row _ _ _ _ _ _ zp]; rfl
    have u4 : Z.cell? ⟨p + 1, 0, none⟩ = some (.int .i64 0) := by rw [cell_of_row _ _ _ _ _ _ zp1]; rfl
    rw [← hZ]
    clear hZ d1 d2 d3 d4 zp c4 zp1 oth hsW bw1 hpw bZ x0 x1 x2 x3 x4 g0 g1 g2 g3 g4 y0 y1 y2 y3 f0 f1 f2 f3 rX
    go_wp2
    refine leaves_cons (f := 62) (args := #[.pointer (some ⟨p + 1, 0, none⟩)]) (by simp) (by simp [go_sem]) ?_
    refine (catch_idle ⟨p + 1, 0, none⟩ _).mono ?_
    rintro e u' w'' ⟨rfl, rfl, rfl⟩
    simp [Leaves, settle, results, Tryz.results37, go_sem, u0, u1, u2, u3, u4]
    exact ⟨HBZ.out, x, t, H1.out, _, ⟨rfl, by rw [HLM.out]⟩, HAZ.out⟩
  · have hsW : W.heap.size = p + 1 + 1 + 1 := by rw [HW.out, HP.out]; simp
    have q0 : W.heap[p]? = some (.cells #[.int .i64 0, .string ⟨#[]⟩, .string ⟨#[]⟩, .slice none 0 0] 30 (0, 0)) := by
      rw [HW.out, HP.out, Below.heap_alloc _ _ _ (by simp; omega), Below.heap_alloc _ _ _ (by simp)]; exact heap_alloc_new _ _
    have q1 : W.heap[p + 1]? = some (.cells #[.int .i64 0] 25 (0, 0)) := by
      rw [HW.out, HP.out, Below.heap_alloc _ _ _ (by simp), show w.heap.size + 1 = (w.alloc (.cells #[.int .i64 0, .string ⟨#[]⟩, .string ⟨#[]⟩, .slice none 0 0] 30)).heap.size by simp]; exact heap_alloc_new _ _
    have e0 : w1.heap[p]? = some (.cells #[.int .i64 0, .string ⟨#[]⟩, .string ⟨#[]⟩, .slice none 0 0] 30 (0, 0)) := (hb1.block p (by omega) (by simp; omega)).trans q0
    have e1 : w1.heap[p + 1]? = some (.cells #[.int .i64 0] 25 (0, 0)) := (hb1.block (p + 1) (by omega) (by simp)).trans q1
    have c1 : w1.cell? ⟨p + 1, 0, none⟩ = some (.int .i64 0) := by rw [cell_of_row _ _ _ _ _ _ e1]; rfl
    have z1 : w1.frozen? ⟨p + 1, 0, none⟩ = false := frozen_of_row _ _ _ _ _ e1
    obtain ⟨X, hX⟩ : ∃ X, X = w1.setCell ⟨p + 1, 0, none⟩ (.int .i64 1) := ⟨_, rfl⟩
    have qX : X.heap[p]? = some (.cells #[.int .i64 0, .string ⟨#[]⟩, .string ⟨#[]⟩, .slice none 0 0] 30 (0, 0)) := by rw [hX, heap_setCell_other _ _ _ _ (by show p ≠ p + 1; omega)]; exact e0
    have qX1 : X.heap[p + 1]? = some (.cells #[.int .i64 1] 25 (0, 0)) := by rw [hX, heap_setCell_same _ _ _ _ _ _ e1]; rfl
    have x0 : X.cell? ⟨p, 0, none⟩ = some (.int .i64 0) := by rw [cell_of_row _ _ _ _ _ _ qX]; rfl
    have x1 : X.cell? ⟨p, 1, none⟩ = some (.string ⟨#[]⟩) := by rw [cell_of_row _ _ _ _ _ _ qX]; rfl
    have x2 : X.cell? ⟨p, 2, none⟩ = some (.string ⟨#[]⟩) := by rw [cell_of_row _ _ _ _ _ _ qX]; rfl
    have x3 : X.cell? ⟨p, 3, none⟩ = some (.slice none 0 0) := by rw [cell_of_row _ _ _ _ _ _ qX]; rfl
    have x4 : X.cell? ⟨p + 1, 0, none⟩ = some (.int .i64 1) := by rw [cell_of_row _ _ _ _ _ _ qX1]; rfl
    have bX : Below w.heap.size w X := by
      rw [hX]
      exact (hb.trans (hb1.below (by omega) |>.mono (by have := HP.out; omega))).setCell (p := ⟨p + 1, 0, none⟩) (by show _ ≤ p + 1; have := HP.out; omega) _
    have HBX : Hid (Below w.heap.size w X) := bX
    have HX : Hid (X = w1.setCell ⟨p + 1, 0, none⟩ (.int .i64 1)) := hX
    have H1 : Hid (M.rA l = none) := h1
    have HCc : Hid (w1.cell? ⟨p + 1, 0, none⟩ = some (.int .i64 0) ∧ w1.frozen? ⟨p + 1, 0, none⟩ = false) := ⟨c1, z1⟩
    clear h1 e0 e1 q0 q1 hsW qX qX1 hX c1 z1 bX
    unfold early
    go_wp2
    refine leaves_cons (f := 62) (args := #[.pointer (some ⟨p + 1, 0, none⟩)]) (by simp) (by simp [go_sem]) ?_
    refine (catch_panicking ⟨p + 1, 0, none⟩ 0 [] _ HCc.out.1 HCc.out.2).mono ?_
    rintro e u' w'' ⟨rfl, rfl, rfl⟩
    rw [← HX.out]
    simp [Leaves, settle, results, Tryz.results37, go_sem, x0, x1, x2, x3, x4]
    exact ⟨HBX.out, H1.out⟩
end Go.Proofs.YtcgpgflnihjpiagGreat

/- Acts in memory; log.Replay. -/
namespace Go.Proofs.YtcgpgflnihjpiagGreat
open Go.RowKit

def act0 : M.Act := ⟨0, [], [], []⟩
def encAct : List M.Act → List Value → List Value
  | x :: xs, v :: vs => .int .i64 x.kind :: .string (M.str x.one) :: .string (M.str x.two) :: v :: encAct xs vs
  | _, _ => []
theorem encAct_length : ∀ (xs : List M.Act) (vs : List Value), vs.length = xs.length → (encAct xs vs).length = xs.length * 4
  | [], [], _ => rfl
  | [], _ :: _, h => by simp at h
  | _ :: _, [], h => by simp at h
  | x :: xs, v :: vs, h => by
    have := encAct_length xs vs (by simpa using h)
    simp [encAct, this]; omega
theorem encAct_append : ∀ (xs ys : List M.Act) (vs us : List Value), vs.length = xs.length → encAct (xs ++ ys) (vs ++ us) = encAct xs vs ++ encAct ys us
  | [], _, [], _, _ => rfl
  | [], _, _ :: _, _, h => by simp at h
  | _ :: _, _, [], _, h => by simp at h
  | x :: xs, ys, v :: vs, us, h => by
    have := encAct_append xs ys vs us (by simpa using h)
    simp [encAct, this]
theorem encAct_at : ∀ (xs : List M.Act) (vs : List Value), vs.length = xs.length → ∀ i, i < xs.length →
    (encAct xs vs)[i * 4]? = some (.int .i64 (xs.getD i act0).kind) ∧ (encAct xs vs)[i * 4 + 1]? = some (.string (M.str (xs.getD i act0).one)) ∧ (encAct xs vs)[i * 4 + 2]? = some (.string (M.str (xs.getD i act0).two)) ∧ (encAct xs vs)[i * 4 + 3]? = some (vs.getD i (.slice none 0 0))
  | [], _, _, i, hi => by simp at hi
  | _ :: _, [], h, _, _ => by simp at h
  | x :: xs, v :: vs, h, i, hi => by
    cases i with
    | zero => simp [encAct]
    | succ i =>
      have := encAct_at xs vs (by simpa using h) i (by simpa using hi)
      rw [show (i + 1) * 4 = i * 4 + 1 + 1 + 1 + 1 by omega]
      simpa [encAct] using this
/-- Acts in a row of the call's own, and all that they hold. -/
def OwnA (w : World) (base : Nat) (v : Value) (xs : List M.Act) : Prop :=
  ∃ vs : List Value, vs.length = xs.length ∧ w.ownsRow base 30 4 v xs.length (encAct xs vs) ∧ ∀ i, i < xs.length → OwnC w base (vs.getD i (.slice none 0 0)) (xs.getD i act0).chs
theorem OwnA.nil (w : World) (base : Nat) : OwnA w base (.slice none 0 0) [] := ⟨[], rfl, World.ownsRow_nil _ _ _ _, fun i hi => by simp at hi⟩
theorem OwnA.later {w w' : World} {base : Nat} {v : Value} {xs : List M.Act} (h : OwnA w base v xs) (hb : Below w.heap.size w w') : OwnA w' base v xs := by
  obtain ⟨vs, h1, h2, h3⟩ := h
  exact ⟨vs, h1, ownsRow_later h2 hb, fun i hi => ownsRow_later (h3 i hi) hb⟩
theorem OwnA.lower {w : World} {base base' : Nat} {v : Value} {xs : List M.Act} (h : OwnA w base v xs) (hb : base' ≤ base) : OwnA w base' v xs := by
  obtain ⟨vs, h1, h2, h3⟩ := h
  exact ⟨vs, h1, ownsRow_lower h2 hb, fun i hi => ownsRow_lower (h3 i hi) hb⟩
/-- Acts that may be read. -/
def Ac (w : World) (a : Option Addr) (n : Nat) (xs : List M.Act) : Prop :=
  xs.length = n ∧ (n = 0 ∨ ∃ b off, a = some ⟨b, off, none⟩ ∧ b < w.heap.size ∧ ∀ i, i < n → ∃ ca cn cc, w.cell? ⟨b, off + i * 4, none⟩ = some (.int .i64 (xs.getD i act0).kind) ∧ w.cell? ⟨b, off + i * 4 + 1, none⟩ = some (.string (M.str (xs.getD i act0).one)) ∧ w.cell? ⟨b, off + i * 4 + 2, none⟩ = some (.string (M.str (xs.getD i act0).two)) ∧ w.cell? ⟨b, off + i * 4 + 3, none⟩ = some (.slice ca cn cc) ∧ Rc w ca cn (xs.getD i act0).chs ∧ cn ≤ 9223372036854775807)
theorem Ac.below {w w' : World} {a : Option Addr} {n : Nat} {xs : List M.Act} (h : Ac w a n xs) (hb : Below w.heap.size w w') : Ac w' a n xs := by
  obtain ⟨h1, h2⟩ := h
  refine ⟨h1, ?_⟩
  rcases h2 with h2 | ⟨b, off, ha, hlt, hc⟩
  · exact Or.inl h2
  · refine Or.inr ⟨b, off, ha, Nat.lt_of_lt_of_le hlt hb.size, fun i hi => ?_⟩
    obtain ⟨ca, cn, cc, k0, k1, k2, k3, k4, k5⟩ := hc i hi
    exact ⟨ca, cn, cc, (hb.cell (p := ⟨b, off + i * 4, none⟩) hlt).trans k0, (hb.cell (p := ⟨b, off + i * 4 + 1, none⟩) hlt).trans k1, (hb.cell (p := ⟨b, off + i * 4 + 2, none⟩) hlt).trans k2, (hb.cell (p := ⟨b, off + i * 4 + 3, none⟩) hlt).trans k3, k4.below hb (Nat.le_refl _), k5⟩
theorem OwnA.ac {w : World} {base : Nat} {v : Value} {xs : List M.Act} (h : OwnA w base v xs) : ∃ a cap, v = .slice a xs.length cap ∧ Ac w a xs.length xs ∧ xs.length ≤ cap ∧ cap ≤ maxLen := by
  obtain ⟨vs, hl, h0, hv⟩ := h
  obtain ⟨h1, h2⟩ := h0
  rcases h2 with ⟨rfl, hn⟩ | ⟨g, cap, cur, rfl, hb, hh, hc, hm, hz, hx⟩
  · exact ⟨none, 0, by rw [hn], ⟨rfl, Or.inl hn⟩, by omega, by simp [maxLen]⟩
  · have h0 : w.ownsRow base 30 4 (.slice (some ⟨g, 0, none⟩) xs.length cap) xs.length (encAct xs vs) := ⟨h1, Or.inr ⟨g, cap, cur, rfl, hb, hh, hc, hm, hz, hx⟩⟩
    have hlt : g < w.heap.size := (Array.getElem?_eq_some_iff.1 hh).1
    refine ⟨_, cap, rfl, ⟨rfl, Or.inr ⟨g, 0, rfl, hlt, fun i hi => ?_⟩⟩, hc, hm⟩
    obtain ⟨ca, cc, e, r, l1, l2⟩ := OwnC.rc (hv i hi)
    obtain ⟨e0, e1, e2, e3⟩ := encAct_at xs vs hl i hi
    refine ⟨ca, _, cc, ?_, ?_, ?_, ?_, r, by unfold maxLen at l2; omega⟩
    · rw [World.ownsRow.cellAt h0 (0 + i * 4) (by omega), Nat.zero_add, e0]
    · rw [World.ownsRow.cellAt h0 (0 + i * 4 + 1) (by omega), Nat.zero_add, e1]
    · rw [World.ownsRow.cellAt h0 (0 + i * 4 + 2) (by omega), Nat.zero_add, e2]
    · rw [World.ownsRow.cellAt h0 (0 + i * 4 + 3) (by omega), Nat.zero_add, e3, e]
/-- One act more. -/
theorem OwnA.append {w w1 : World} {base : Nat} {v v' u : Value} {xs : List M.Act} {x : M.Act} {vs : List Value} (hl : vs.length = xs.length) (h1 : w.ownsRow base 30 4 v xs.length (encAct xs vs)) (h2 : ∀ i, i < xs.length → OwnC w base (vs.getD i (.slice none 0 0)) (xs.getD i act0).chs)
    (hp : OwnC w base u x.chs) (h3 : w1.ownsRow base 30 4 v' (xs.length + 1) (encAct xs vs ++ [.int .i64 x.kind, .string (M.str x.one), .string (M.str x.two), u])) (hg : w.grownBy w1 v.ownBlock) : OwnA w1 base v' (xs ++ [x]) := by
  have no : ∀ r, v.ownBlock = some r → ∀ cur, w.heap[r]? ≠ some (.cells cur 64 (0, 0)) := by
    intro r hr cur hc
    rcases h1.2 with ⟨rfl, _⟩ | ⟨g, cap, cur', rfl, _, hgb, _⟩
    · simp [Value.ownBlock] at hr
    · obtain rfl : g = r := by simpa [Value.ownBlock] using hr
      rw [hgb] at hc
      simp at hc
  have keep : ∀ q d, OwnC w base q d → OwnC w1 base q d := fun q d h => ownsRow_elsewhere h hg no
  refine ⟨vs ++ [u], by simp [hl], ?_, fun i hi => ?_⟩
  · rw [encAct_append xs [x] vs [u] hl, List.length_append]
    exact h3
  · by_cases hlt : i < xs.length
    · have e1 : (vs ++ [u]).getD i (.slice none 0 0) = vs.getD i (.slice none 0 0) := by simp [List.getD, List.getElem?_append_left (show i < vs.length by omega)]
      have e2 : (xs ++ [x]).getD i act0 = xs.getD i act0 := by simp [List.getD, List.getElem?_append_left hlt]
      rw [e1, e2]
      exact keep _ _ (h2 i hlt)
    · obtain rfl : i = xs.length := by simp at hi; omega
      have e1 : (vs ++ [u]).getD xs.length (.slice none 0 0) = u := by rw [← hl]; simp [List.getD]
      have e2 : (xs ++ [x]).getD xs.length act0 = x := by simp [List.getD]
      rw [e1, e2]
      exact keep _ _ hp
theorem infoAct : (Tryz.prog.info? 30).map (fun i => (i.zero, i.size, i.bytes)) = some (some (.agg #[.int .i64 0, .string ⟨#[]⟩, .string ⟨#[]⟩, .slice none 0 0]), 4, 64) := by kernel_rfl
theorem cell_four_new (w : World) (x y z u : Value) (t : TypeId) : ∀ j v, [x, y, z, u][j]? = some v → (w.alloc (.cells #[x, y, z, u] t)).cell? ((⟨w.heap.size, 0, none⟩ : Addr).add j) = some v := by
  intro j v hj
  match j, hj with
  | 0, hj => simp at hj; subst hj; simp [go_sem, Addr.add]
  | 1, hj => simp at hj; subst hj; simp [go_sem, Addr.add]
  | 2, hj => simp at hj; subst hj; simp [go_sem, Addr.add]
  | 3, hj => simp at hj; subst hj; simp [go_sem, Addr.add]

theorem M.rAs_more {n : Nat} {l t : M.By} {x : M.Act} (h : M.rA l = some (x, t)) : M.rAs (n + 1) l = (x :: (M.rAs n t).1, (M.rAs n t).2) := by
  rw [M.rAs, h]

theorem M.rA_drop {l t : M.By} {x : M.Act} (h : M.rA l = some (x, t)) : t = l.drop (l.length - t.length) := by
  have e := (M.rA_inv h).1
  have hl : l.length - t.length = (M.pA x).length := by rw [e]; simp
  rw [hl]
  conv => rhs; rw [e]
  rw [List.drop_left]

set_option maxRecDepth 100000 in
set_option maxHeartbeats 4000000 in
theorem replay_any (l : M.By) (w : World) (hl : l.length ≤ 9223372036854775807) :
    Calls Tryz.prog 13 #[.string (M.str l)] w fun e w' => Below w.heap.size w w' ∧
      ((4096 < l.length ∧ e = .returned (.tuple #[.slice none 0 0, .int .i64 0, .int .i64 2])) ∨
       (l.length ≤ 4096 ∧ ∃ v, e = .returned (.tuple #[v, .int .i64 ((l.length - (M.rAs 60 l).2.length : Nat) : Int), .int .i64 0]) ∧ OwnA w' w.heap.size v (M.rAs 60 l).1)) := by
  obtain ⟨s, hs⟩ : ∃ s, s = M.str l := ⟨_, rfl⟩
  have hsz : s.size = l.length := by rw [hs, M.str_size]
  obtain ⟨L, hL⟩ : ∃ L, L = l.length := ⟨_, rfl⟩
  rw [← hL] at hsz hl
  rw [← hs]
  obtain ⟨i1, hi1, hy0, hy1, hy2⟩ := info_parts infoAct
  by_cases h : 4096 < L
  · have hb : decide ((4096 : Int) < (L : Int)) = true := by simp; omega
    have HL : Hid (4096 < l.length) := by unfold Hid; omega
    clear hL hs h
    go_enter Tryz.func13, Tryz.ntmps13
    go_wp2
    go_ret3
    exact ⟨Below.refl _ _, Or.inl ⟨HL.out, rfl⟩⟩
  · have hb : decide ((4096 : Int) < (L : Int)) = false := by simp; omega
    have HL : Hid (l.length ≤ 4096) := by unfold Hid; omega
    have HS : Hid (s = M.str l) := hs
    have HLl : Aside (L = l.length) := hL
    clear hL hs h
    go_enter Tryz.func13, Tryz.ntmps13
    go_wp2_with fail
    go_loopg [5, 6] 60 (fun g v i wr => ∃ (k by' : Nat) (xs : List M.Act) (t : M.By), k + g = 60 ∧ i = .int .i64 by' ∧ Aside (t = l.drop by') ∧ Aside (by' ≤ L) ∧ Aside (M.rAs 60 l = (xs ++ (M.rAs g t).1, (M.rAs g t).2)) ∧ Aside (xs.length = k) ∧ Aside (OwnA wr w.heap.size v xs) ∧ Below w.heap.size w wr)
    case atStart => exact ⟨0, 0, [], l, by omega, rfl, rfl, by unfold Aside; omega, rfl, rfl, OwnA.nil _ _, Below.refl _ _⟩
    case round =>
      obtain ⟨k, by', xs, t, hkg, rfl, HT, HBy, HAs, HLx, HO, hbw⟩ := hrel
      obtain ⟨va, vc, hv, _⟩ := HO.out.ac
      rw [HLx.out] at hv
      subst hv
      have htl : t.length = L - by' := by rw [HT.out, List.length_drop, HLl.out]
      have HTl : Hid (t.length = L - by') := htl
      by_cases hk : k < 60
      · obtain ⟨gq, rfl⟩ : ∃ gq, gk = gq + 1 := ⟨gk - 1, by omega⟩
        have hki : (k : Int) < 60 := by omega
        have e1 : s.extract by' L = M.str t := by rw [HS.out, M.str_drop l by' L HLl.out, HT.out]
        have h2 : (by' : Int) ≤ (L : Int) := by have := HBy.out; omega
        have h3 : 0 ≤ (by' : Int) := by omega
        have K : Hid (Calls Tryz.prog 37 #[.string (M.str t), .func (.func 38) #[] #[]] wr fun e w' => Below wr.heap.size wr w' ∧
          ((∃ x t' v, M.rA t = some (x, t') ∧ e = .returned (.tuple #[v, .int .i64 ((t.length - t'.length : Nat) : Int), .int .i64 0]) ∧ isAct wr.heap.size x v w') ∨
           (M.rA t = none ∧ e = .returned (.tuple #[.agg #[.int .i64 0, .string ⟨#[]⟩, .string ⟨#[]⟩, .slice none 0 0], .int .i64 0, .int .i64 1])))) := readA_any t wr (by have h5 := HL.out; have h6 := HLl.out; rw [HTl.out]; omega)
        clear htl
        go_wp2_with fail
        refine K.out.mono ?_
        rintro e w1 ⟨b1, ⟨x, t2, v, h1, rfl, ca, cn, cc, rfl, oc⟩ | ⟨h1, rfl⟩⟩
        · have hb1 := hbw.trans (b1.mono hbw.size)
          obtain ⟨j, hj⟩ : ∃ j, j = t.length - t2.length := ⟨_, rfl⟩
          have hless := M.rA_less h1
          have hj2 : by' + j ≤ L := by have := HTl.out; have := HBy.out; omega
          have HT2 : Aside (t2 = l.drop (by' + j)) := by
            unfold Aside
            have := M.rA_drop h1
            rw [← hj] at this
            rw [this, HT.out, List.drop_drop]
          have HAs2 : Aside (M.rAs 60 l = ((xs ++ [x]) ++ (M.rAs gq t2).1, (M.rAs gq t2).2)) := by
            unfold Aside
            rw [HAs.out, M.rAs_more h1]
            simp
          have HLx2 : Aside ((xs ++ [x]).length = k + 1) := by unfold Aside; rw [List.length_append, HLx.out]; rfl
          have hwj : IntKind.i64.wrap ((by' : Int) + (j : Int)) = ((by' + j : Nat) : Int) := by rw [IntKind.wrap_i64]; have := HL.out; have := HLl.out; omega
          unfold actV
          obtain ⟨kd, hkd⟩ : ∃ kd, kd = x.kind := ⟨_, rfl⟩
          obtain ⟨so, hso⟩ : ∃ so, so = M.str x.one := ⟨_, rfl⟩
          obtain ⟨st, hst⟩ : ∃ st, st = M.str x.two := ⟨_, rfl⟩
          rw [← hj, ← hkd, ← hso, ← hst]
          obtain ⟨W2, hW2⟩ : ∃ W2, W2 = w1.alloc (.cells #[.int .i64 kd, .string so, .string st, .slice ca cn cc] 30) := ⟨_, rfl⟩
          obtain ⟨vs, hvl, hrow, hel⟩ := HO.out
          have b2 : Below w1.heap.size w1 W2 := by rw [hW2]; exact (Below.refl _ _).alloc (Nat.le_refl _) _
          have q2 : Below wr.heap.size wr W2 := b1.trans (b2.mono b1.size)
          rw [HLx.out] at hrow
          have HRA : Hid ((W2.alloc (.cells #[.int .i64 kd, .string so, .string st, .slice ca cn cc] 30)).ownsRow w.heap.size 30 4 (.slice va k vc) k (encAct xs vs)) := (ownsRow_later hrow q2).alloc _
          have HCN : Hid (∀ jj u, [Value.int .i64 kd, .string so, .string st, .slice ca cn cc][jj]? = some u → (W2.alloc (.cells #[.int .i64 kd, .string so, .string st, .slice ca cn cc] 30)).cell? ((⟨w1.heap.size + 1, 0, none⟩ : Addr).add jj) = some u) := by
            unfold Hid
            rw [show w1.heap.size + 1 = W2.heap.size by rw [hW2]; simp]
            exact cell_four_new _ _ _ _ _ _
          have HPut : Hid (∀ v' w', w'.ownsRow w.heap.size 30 4 v' (k + 1) (encAct xs vs ++ [.int .i64 kd, .string so, .string st, .slice ca cn cc]) → (W2.alloc (.cells #[.int .i64 kd, .string so, .string st, .slice ca cn cc] 30)).grownBy w' (Value.slice va k vc).ownBlock → OwnA w' w.heap.size v' (xs ++ [x])) := fun v' w' h3 hg => by
            have hba : Below W2.heap.size W2 (W2.alloc (.cells #[.int .i64 kd, .string so, .string st, .slice ca cn cc] 30)) := (Below.refl _ _).alloc (Nat.le_refl _) _
            refine OwnA.append (u := .slice ca cn cc) hvl (by rw [HLx.out]; exact HRA.out) (fun i hi => ownsRow_later (ownsRow_later (hel i hi) q2) hba) (ownsRow_later (ownsRow_later (ownsRow_lower oc hbw.size) b2) hba) ?_ hg
            rw [HLx.out, ← hkd, ← hso, ← hst]; exact h3
          have HB2 : Hid (Below w.heap.size w (W2.alloc (.cells #[.int .i64 kd, .string so, .string st, .slice ca cn cc] 30))) := ((hb1.trans (b2.mono hb1.size))).alloc (hb1.trans (b2.mono hb1.size)).size _
          have HOw : Hid (∀ kk, (Value.slice va k vc).ownBlock = some kk → w.heap.size ≤ kk) := fun kk e => (World.ownsRow.lt hrow kk e).1
          have HW2 : Hid (W2 = w1.alloc (.cells #[.int .i64 kd, .string so, .string st, .slice ca cn cc] 30)) := hW2
          clear h1 oc hless hkd hso hst hj hW2 hvl hrow hel b2 q2 K b1
          go_wp2_with (at_builtin; refine wpList_append_own _ rfl _ _ 22 rfl w.heap.size 30 i1 (.agg #[.int .i64 0, .string ⟨#[]⟩, .string ⟨#[]⟩, .slice none 0 0]) 4 64 Tryz.underlying22 hi1 hy0 hy1 hy2 rfl (by decide) _ k (encAct xs vs) rfl (by rw [← HW2.out]; exact HRA.out) ⟨w1.heap.size + 1, 0, none⟩ 1 1 [.int .i64 kd, .string so, .string st, .slice ca cn cc] rfl rfl (by rw [← HW2.out]; exact HCN.out) (by simp [Value.oneCell']) (by simp only [maxLen]; omega) (by omega) (by rw [← HW2.out]; exact HB2.out.size) ?_)
          rw [← HW2.out]
          intro v3 w3 h6 h7 _
          have HO3 : Aside (OwnA w3 w.heap.size v3 (xs ++ [x])) := HPut.out v3 w3 h6 h7
          have b3 : Below w.heap.size w w3 := HB2.out.grown h7 HB2.out.size HOw.out
          clear h6 h7 HPut HRA HCN HOw
          go_wp2
          go_roundg gq
          case measure => omega
          case rel => exact ⟨k + 1, by' + j, _, t2, by omega, by go_num, HT2, hj2, HAs2, HLx2, HO3, b3⟩
        · have hb1 := hbw.trans (b1.mono hbw.size)
          obtain ⟨W2, hW2⟩ : ∃ W2, W2 = w1.alloc (.cells #[.int .i64 0, .string ⟨#[]⟩, .string ⟨#[]⟩, .slice none 0 0] 30) := ⟨_, rfl⟩
          have b2 : Below w1.heap.size w1 W2 := by rw [hW2]; exact (Below.refl _ _).alloc (Nat.le_refl _) _
          have HW2 : Hid (W2 = w1.alloc (.cells #[.int .i64 0, .string ⟨#[]⟩, .string ⟨#[]⟩, .slice none 0 0] 30)) := hW2
          have HAe : Hid (M.rAs 60 l = (xs, t)) := by unfold Hid; rw [HAs.out, M.rAs_none _ _ h1]; simp
          have HO2 : Hid (OwnA W2 w.heap.size (.slice va k vc) xs) := HO.out.later (b1.trans (b2.mono b1.size))
          have HB2 : Hid (Below w.heap.size w W2) := hb1.trans (b2.mono hb1.size)
          clear hW2 b2 b1 h1 K
          go_wp2
          rw [← HW2.out]
          go_ret3
          refine ⟨HB2.out, Or.inr ⟨HL.out, .slice va k vc, ?_, ?_⟩⟩
          · rw [HAe.out, show l.length - t.length = by' by have := HTl.out; have := HBy.out; have := HLl.out; omega]; rfl
          · rw [HAe.out]; exact HO2.out
      · obtain rfl : k = 60 := by omega
        obtain rfl : gk = 0 := by omega
        have HAe : Hid (M.rAs 60 l = (xs, t)) := by unfold Hid; rw [HAs.out]; simp [M.rAs]
        go_wp2
        go_ret3
        refine ⟨hbw, Or.inr ⟨HL.out, .slice va 60 vc, ?_, ?_⟩⟩
        · rw [HAe.out, show l.length - t.length = by' by have := HTl.out; have := HBy.out; have := HLl.out; omega]; rfl
        · rw [HAe.out]; exact HO.out
end Go.Proofs.YtcgpgflnihjpiagGreat

/- The commits of cross. -/
namespace Go.Proofs.YtcgpgflnihjpiagGreat
open Go.RowKit

theorem dbelow2 {w a b : World} (h : Below w.heap.size w a) (k : Below a.heap.size a b) : Below w.heap.size w b := h.trans (k.mono h.size)
def dfew : List (Int × Int) := [(2, 5), (7, 0), (9, 30)]
theorem dfew_any (w : World) : Calls Tryz.prog 105 #[] w fun e w' => e = .returned (.slice (some ⟨w.heap.size, 0, none⟩) 3 3) ∧ Rd w' (some ⟨w.heap.size, 0, none⟩) 3 dfew ∧ Below w.heap.size w w' := by
  go_enter Tryz.func105, Tryz.ntmps105
  go_wp2
  go_ret
  refine ⟨rfl, ⟨rfl, Or.inr ⟨w.heap.size, 0, rfl, by simp, fun i hi => ?_⟩⟩, (Below.refl _ _).alloc (Nat.le_refl _) _⟩
  match i, hi with
  | 0, _ => constructor <;> simp [go_sem, dfew]
  | 1, _ => constructor <;> simp [go_sem, dfew]
  | 2, _ => constructor <;> simp [go_sem, dfew]

def crossL : List M.Com := [([], []), (dfew, [0]), ([], [0]), ([], [1, 2]), ([], [1, 2]), ([], [])]
def crossX : List M.Com := [([], []), (dfew, [1]), ([], [0]), ([], [1, 2]), ([], [1, 2]), ([], [])]
def crossC (f b1 b2 b3 b4 : Nat) : Array Value :=
  #[.slice none 0 0, .slice none 0 0, .slice (some ⟨f, 0, none⟩) 3 3, .slice (some ⟨b1, 0, none⟩) 1 1, .slice none 0 0, .slice (some ⟨b2, 0, none⟩) 1 1,
    .slice none 0 0, .slice (some ⟨b3, 0, none⟩) 2 2, .slice none 0 0, .slice (some ⟨b4, 0, none⟩) 2 2, .slice none 0 0, .slice none 0 0]
/-- Where the commits of cross lie. -/
def CrossAt (w : World) (g : Nat) : Prop := ∃ f b1 b2 b3 b4, w.heap[g]? = some (.cells (crossC f b1 b2 b3 b4) 54 (0, 0)) ∧ f < g ∧ b1 < g ∧ b2 < g ∧ b3 < g ∧ b4 < g ∧
  Rd w (some ⟨f, 0, none⟩) 3 dfew ∧ Ri w (some ⟨b1, 0, none⟩) 1 [0] ∧ Ri w (some ⟨b2, 0, none⟩) 1 [0] ∧ Ri w (some ⟨b3, 0, none⟩) 2 [1, 2] ∧ Ri w (some ⟨b4, 0, none⟩) 2 [1, 2]
theorem CrossAt.below {w w' : World} {g : Nat} (h : CrossAt w g) (hb : Below w.heap.size w w') : CrossAt w' g := by
  obtain ⟨f, b1, b2, b3, b4, h1, k1, k2, k3, k4, k5, r1, r2, r3, r4, r5⟩ := h
  exact ⟨f, b1, b2, b3, b4, (hb.block g (Array.getElem?_eq_some_iff.1 h1).1).trans h1, k1, k2, k3, k4, k5, r1.below hb (Nat.le_refl _), r2.below hb (Nat.le_refl _), r3.below hb (Nat.le_refl _), r4.below hb (Nat.le_refl _), r5.below hb (Nat.le_refl _)⟩
theorem rd_nil (w : World) (a : Option Addr) : Rd w a 0 [] := ⟨rfl, Or.inl rfl⟩
theorem ri_nil (w : World) (a : Option Addr) : Ri w a 0 [] := ⟨rfl, Or.inl rfl⟩
theorem CrossAt.lt {w : World} {g : Nat} (h : CrossAt w g) : g < w.heap.size := by
  obtain ⟨f, b1, b2, b3, b4, h1, _⟩ := h
  exact (Array.getElem?_eq_some_iff.1 h1).1
theorem CrossAt.cm {w : World} {g : Nat} (h : CrossAt w g) : Cm w (some ⟨g, 0, none⟩) 6 crossL := by
  have hlt := h.lt
  obtain ⟨f, b1, b2, b3, b4, h1, k1, k2, k3, k4, k5, r1, r2, r3, r4, r5⟩ := h
  refine ⟨rfl, Or.inr ⟨g, 0, rfl, hlt, fun i hi => ?_⟩⟩
  rw [cell_of_row w g _ _ _ _ h1, cell_of_row w g _ _ _ _ h1]
  match i, hi with
  | 0, _ => exact ⟨_, _, _, _, _, _, rfl, rfl, rd_nil _ _, ri_nil _ _, by omega, by omega⟩
  | 1, _ => exact ⟨_, _, _, _, _, _, rfl, rfl, r1, r2, by omega, by omega⟩
  | 2, _ => exact ⟨_, _, _, _, _, _, rfl, rfl, rd_nil _ _, r3, by omega, by omega⟩
  | 3, _ => exact ⟨_, _, _, _, _, _, rfl, rfl, rd_nil _ _, r4, by omega, by omega⟩
  | 4, _ => exact ⟨_, _, _, _, _, _, rfl, rfl, rd_nil _ _, r5, by omega, by omega⟩
  | 5, _ => exact ⟨_, _, _, _, _, _, rfl, rfl, rd_nil _ _, ri_nil _ _, by omega, by omega⟩
theorem Rd.at {w w' : World} {b n B : Nat} {l : List (Int × Int)} (h : Rd w (some ⟨b, 0, none⟩) n l) (hb : b < B) (hB : Below B w w') : Rd w' (some ⟨b, 0, none⟩) n l := by
  obtain ⟨h1, h2⟩ := h
  refine ⟨h1, ?_⟩
  rcases h2 with h2 | ⟨b', off', ha, hlt, hc⟩
  · exact Or.inl h2
  · cases ha
    refine Or.inr ⟨b, 0, rfl, Nat.lt_of_lt_of_le hlt hB.size, fun i hi => ?_⟩
    rw [hB.cell (p := ⟨b, 0 + i * 2, none⟩) hb, hB.cell (p := ⟨b, 0 + i * 2 + 1, none⟩) hb]
    exact hc i hi
theorem Ri.at {w w' : World} {b n B : Nat} {l : List Int} (h : Ri w (some ⟨b, 0, none⟩) n l) (hb : b < B) (hB : Below B w w') : Ri w' (some ⟨b, 0, none⟩) n l := by
  obtain ⟨h1, h2⟩ := h
  refine ⟨h1, ?_⟩
  rcases h2 with h2 | ⟨b', off', ha, hlt, hc⟩
  · exact Or.inl h2
  · cases ha
    refine Or.inr ⟨b, 0, rfl, Nat.lt_of_lt_of_le hlt hB.size, fun i hi => ?_⟩
    rw [hB.cell (p := ⟨b, 0 + i, none⟩) hb]
    exact hc i hi
/-- With other parents of the second. -/
theorem CrossAt.poke {w : World} {g : Nat} (h : CrossAt w g) :
    Cm ((w.alloc (.cells #[.int .i64 1] 3)).setCell ⟨g, 3, none⟩ (.slice (some ⟨w.heap.size, 0, none⟩) 1 1)) (some ⟨g, 0, none⟩) 6 crossX := by
  have hlt := h.lt
  obtain ⟨f, b1, b2, b3, b4, h1, k1, k2, k3, k4, k5, r1, r2, r3, r4, r5⟩ := h.below ((Below.refl w.heap.size w).alloc (Nat.le_refl _) (.cells #[.int .i64 1] 3))
  have hb : Below g (w.alloc (.cells #[.int .i64 1] 3)) ((w.alloc (.cells #[.int .i64 1] 3)).setCell ⟨g, 3, none⟩ (.slice (some ⟨w.heap.size, 0, none⟩) 1 1)) := (Below.refl _ _).setCell (p := ⟨g, 3, none⟩) (Nat.le_refl _) _
  have h2 := heap_setCell_same _ g 3 _ _ (.slice (some ⟨w.heap.size, 0, none⟩) 1 1) h1
  have hnew : Ri ((w.alloc (.cells #[.int .i64 1] 3)).setCell ⟨g, 3, none⟩ (.slice (some ⟨w.heap.size, 0, none⟩) 1 1)) (some ⟨w.heap.size, 0, none⟩) 1 [1] := by
    refine ⟨rfl, Or.inr ⟨w.heap.size, 0, rfl, by simp [World.setCell], fun i hi => ?_⟩⟩
    have e := heap_setCell_other (w.alloc (.cells #[.int .i64 1] 3)) ⟨g, 3, none⟩ w.heap.size (.slice (some ⟨w.heap.size, 0, none⟩) 1 1) (by show w.heap.size ≠ g; omega)
    rw [World.cell?_of_block (a := ⟨w.heap.size, 0 + i, none⟩) e]
    exact ri_one w 1 i hi
  refine ⟨rfl, Or.inr ⟨g, 0, rfl, by simp [World.setCell]; omega, fun i hi => ?_⟩⟩
  rw [cell_of_row _ g _ _ _ _ h2, cell_of_row _ g _ _ _ _ h2]
  match i, hi with
  | 0, _ => exact ⟨_, _, _, _, _, _, rfl, rfl, rd_nil _ _, ri_nil _ _, by omega, by omega⟩
  | 1, _ => exact ⟨_, _, _, _, _, _, rfl, rfl, r1.at k1 hb, hnew, by omega, by omega⟩
  | 2, _ => exact ⟨_, _, _, _, _, _, rfl, rfl, rd_nil _ _, r3.at k3 hb, by omega, by omega⟩
  | 3, _ => exact ⟨_, _, _, _, _, _, rfl, rfl, rd_nil _ _, r4.at k4 hb, by omega, by omega⟩
  | 4, _ => exact ⟨_, _, _, _, _, _, rfl, rfl, rd_nil _ _, r5.at k5 hb, by omega, by omega⟩
  | 5, _ => exact ⟨_, _, _, _, _, _, rfl, rfl, rd_nil _ _, ri_nil _ _, by omega, by omega⟩

theorem cross_any (w : World) : Calls Tryz.prog 56 #[] w fun e w' => ∃ g, e = .returned (.slice (some ⟨g, 0, none⟩) 6 6) ∧ w.heap.size ≤ g ∧ CrossAt w' g ∧ Below w.heap.size w w' := by
  go_enter Tryz.func56, Tryz.ntmps56
  go_wp2_with fail
  refine (dfew_any _).mono ?_
  rintro e w1 ⟨rfl, r, hb⟩
  have R : Hid (Rd w1 (some ⟨w.heap.size, 0, none⟩) 3 dfew) := r
  have hs := hb.size
  have hlt : w.heap.size < w1.heap.size := by
    rcases r.2 with h | ⟨b, off, e, hl, _⟩
    · omega
    · cases e; exact hl
  clear r
  go_wp2
  go_ret
  have hbW := ((((hb.alloc hs (.cells #[.int .i64 0] 3)).alloc (by simp; omega) (.cells #[.int .i64 0] 3)).alloc (by simp; omega) (.cells #[.int .i64 1, .int .i64 2] 3)).alloc (by simp; omega) (.cells #[.int .i64 1, .int .i64 2] 3)).alloc (by simp; omega) (.cells (crossC w.heap.size w1.heap.size (w1.heap.size + 1) (w1.heap.size + 1 + 1) (w1.heap.size + 1 + 1 + 1)) 54)
  have hbR := (((((Below.refl w1.heap.size w1).alloc (Nat.le_refl _) (.cells #[.int .i64 0] 3)).alloc (by simp) (.cells #[.int .i64 0] 3)).alloc (by simp; omega) (.cells #[.int .i64 1, .int .i64 2] 3)).alloc (by simp; omega) (.cells #[.int .i64 1, .int .i64 2] 3)).alloc (by simp; omega) (.cells (crossC w.heap.size w1.heap.size (w1.heap.size + 1) (w1.heap.size + 1 + 1) (w1.heap.size + 1 + 1 + 1)) 54)
  refine ⟨w1.heap.size + 1 + 1 + 1 + 1, rfl, by omega, ⟨w.heap.size, w1.heap.size, w1.heap.size + 1, w1.heap.size + 1 + 1, w1.heap.size + 1 + 1 + 1, ?_, by omega, by omega, by omega, by omega, by omega, R.out.below hbR (Nat.le_refl _), ⟨rfl, Or.inr ⟨_, 0, rfl, by simp <;> omega, fun i hi => ?_⟩⟩, ⟨rfl, Or.inr ⟨_, 0, rfl, by simp <;> omega, fun i hi => ?_⟩⟩, ⟨rfl, Or.inr ⟨_, 0, rfl, by simp <;> omega, fun i hi => ?_⟩⟩, ⟨rfl, Or.inr ⟨_, 0, rfl, by simp <;> omega, fun i hi => ?_⟩⟩⟩, hbW⟩
  · rw [show w1.heap.size + 1 + 1 + 1 + 1 = ((((w1.alloc (.cells #[.int .i64 0] 3)).alloc (.cells #[.int .i64 0] 3)).alloc (.cells #[.int .i64 1, .int .i64 2] 3)).alloc (.cells #[.int .i64 1, .int .i64 2] 3)).heap.size by simp]
    exact heap_alloc_new _ _
  · obtain rfl : i = 0 := by omega
    simp [go_sem]
  · obtain rfl : i = 0 := by omega
    simp [go_sem]
  · match i, hi with
    | 0, _ => simp [go_sem]
    | 1, _ => simp [go_sem]
  · match i, hi with
    | 0, _ => simp [go_sem]
    | 1, _ => simp [go_sem]
end Go.Proofs.YtcgpgflnihjpiagGreat

/- strings.Compare; how Branch's sort compares heads. -/
namespace Go.Proofs.YtcgpgflnihjpiagGreat
open Go.RowKit Go.Shelf

def M.cmpS (s t : ByteArray) : Int := Lib.compareBytes s.data.toList t.data.toList

set_option maxRecDepth 100000 in
theorem comps_any (a b : ByteArray) (w : World) :
    Calls Tryz.prog 118 #[.string a, .string b] w fun e w' => e = .returned (.int .i64 (M.cmpS a b)) ∧ w' = w := by
  go_enter Tryz.func118, Tryz.ntmps118
  go_wp2
  rw [run_callFunc_extern Tryz.func144 (by kernel_rfl) (by kernel_rfl) (by kernel_rfl) (e := Extern.BytealgCompare.compare) (by kernel_rfl), Lib.run_compareString]
  simp only [Result.andThen]
  rw [Oper.upon_value]
  go_wp2
  go_ret
  exact ⟨rfl, rfl⟩

theorem scompare_any (a b : ByteArray) (w : World) :
    Calls Tryz.prog 82 #[.string a, .string b] w fun e w' => e = .returned (.int .i64 (M.cmpS a b)) ∧ w' = w := by
  go_enter Tryz.func82, Tryz.ntmps82
  go_wp2_with (go_at_call 118; refine (comps_any _ _ _).mono ?_; rintro e w' ⟨rfl, rfl⟩)
  go_ret
  exact ⟨rfl, rfl⟩

theorem branch4_any (x y : M.Hd) (w : World) :
    Calls Tryz.prog 81 #[.agg #[.string x.1, .int .i64 x.2], .agg #[.string y.1, .int .i64 y.2]] w fun e w' => e = .returned (.int .i64 (M.cmpS x.1 y.1)) ∧ w' = (w.alloc (.cells #[.string x.1, .int .i64 x.2] 58)).alloc (.cells #[.string y.1, .int .i64 y.2] 58) := by
  obtain ⟨s, i⟩ := x
  obtain ⟨t, j⟩ := y
  go_enter Tryz.func81, Tryz.ntmps81
  go_wp2_with (go_at_call 82; refine (scompare_any _ _ _).mono ?_; rintro e w' ⟨rfl, rfl⟩)
  go_ret
  exact ⟨rfl, rfl⟩

theorem cmp_less : ∀ (a b : List UInt8), decide (Lib.compareBytes a b < 0) = Op.bytesLess a b
  | [], [] => by simp [Lib.compareBytes, Op.bytesLess]
  | [], _ :: _ => by simp [Lib.compareBytes, Op.bytesLess]
  | _ :: _, [] => by simp [Lib.compareBytes, Op.bytesLess]
  | x :: a, y :: b => by
    have ih := cmp_less a b
    unfold Lib.compareBytes Op.bytesLess
    by_cases h1 : x < y
    · simp [h1]
    · by_cases h2 : y < x
      · have h3 : ¬ x = y := fun e => by subst e; exact UInt8.lt_irrefl _ h2
        simp [h1, h2, h3]
      · have h3 : x = y := UInt8.le_antisymm (UInt8.not_lt.1 h2) (UInt8.not_lt.1 h1)
        subst h3
        simp [ih]
theorem M.cmpS_less (s t : ByteArray) : decide (M.cmpS s t < 0) = M.less s t := by
  unfold M.cmpS M.less
  rw [cmp_less, ByteArray.toList_eq, ByteArray.toList_eq]
end Go.Proofs.YtcgpgflnihjpiagGreat

/- Heads that rise, and one more that is sorted in. -/
namespace Go.Proofs.YtcgpgflnihjpiagGreat
open Go.RowKit Go.Shelf Go.Sort

theorem bless_irr : ∀ a : List UInt8, Op.bytesLess a a = false
  | [] => rfl
  | x :: a => by simp [Op.bytesLess, bless_irr a]
theorem bless_trans : ∀ a b c : List UInt8, Op.bytesLess a b = true → Op.bytesLess b c = true → Op.bytesLess a c = true
  | _, _, [], _, h => by simp [Op.bytesLess] at h
  | _, [], _ :: _, h, _ => by simp [Op.bytesLess] at h
  | [], _ :: _, _ :: _, _, _ => by simp [Op.bytesLess]
  | x :: a, y :: b, z :: c, h1, h2 => by
    simp only [Op.bytesLess, Bool.or_eq_true, decide_eq_true_eq, Bool.and_eq_true, beq_iff_eq] at h1 h2 ⊢
    rcases h1 with h1 | ⟨rfl, h1⟩
    · rcases h2 with h2 | ⟨rfl, h2⟩
      · exact Or.inl (UInt8.lt_trans h1 h2)
      · exact Or.inl h1
    · rcases h2 with h2 | ⟨rfl, h2⟩
      · exact Or.inl h2
      · exact Or.inr ⟨rfl, bless_trans a b c h1 h2⟩
theorem M.less_trans {a b c : ByteArray} (h1 : M.less a b = true) (h2 : M.less b c = true) : M.less a c = true := bless_trans _ _ _ h1 h2
theorem M.less_asymm {a b : ByteArray} (h1 : M.less a b = true) : M.less b a = false := by
  cases h : M.less b a with
  | false => rfl
  | true =>
    have := M.less_trans h1 h
    unfold M.less at this
    rw [bless_irr] at this
    cases this

instance : Inhabited M.Hd := ⟨M.hd0⟩
/-- A head that is sorted into heads that rise. -/
def M.insH (x : M.Hd) : List M.Hd → List M.Hd
  | [] => [x]
  | h :: t => if M.less x.1 h.1 = true then x :: h :: t else h :: M.insH x t
def M.cmpH (x y : M.Hd) : Int := M.cmpS x.1 y.1
theorem M.ltOf_less (x y : M.Hd) : ltOf M.cmpH x y = M.less x.1 y.1 := M.cmpS_less x.1 y.1

theorem M.ins1 (a x : M.Hd) : insertionSort (ltOf M.cmpH) #[a, x] 0 2 = (M.insH x [a]).toArray := by
  unfold insertionSort
  rw [insOuter_go _ _ _ _ _ (by omega), insOuter_stop _ _ _ _ _ (by omega)]
  by_cases h : M.less x.1 a.1 = true
  · simp [insInner, M.ltOf_less, swp, M.insH, h]
  · simp [insInner, M.ltOf_less, M.insH, h]
theorem M.ins2 (a b x : M.Hd) (h1 : M.less a.1 b.1 = true) : insertionSort (ltOf M.cmpH) #[a, b, x] 0 3 = (M.insH x [a, b]).toArray := by
  have h2 := M.less_asymm h1
  unfold insertionSort
  rw [insOuter_go _ _ _ _ _ (by omega), insOuter_go _ _ _ _ _ (by omega), insOuter_stop _ _ _ _ _ (by omega)]
  have e1 : insInner (ltOf M.cmpH) 0 1 #[a, b, x] = #[a, b, x] := by simp [insInner, M.ltOf_less, h2]
  rw [show 0 + 1 = 1 from rfl, e1]
  by_cases hb : M.less x.1 b.1 = true
  · by_cases ha : M.less x.1 a.1 = true
    · simp [insInner, M.ltOf_less, swp, M.insH, ha, hb]
    · simp [insInner, M.ltOf_less, swp, M.insH, ha, hb]
  · have ha : ¬ M.less x.1 a.1 = true := fun h => hb (M.less_trans h h1)
    simp [insInner, M.ltOf_less, M.insH, ha, hb]
theorem M.ins3 (a b c x : M.Hd) (h1 : M.less a.1 b.1 = true) (k1 : M.less b.1 c.1 = true) : insertionSort (ltOf M.cmpH) #[a, b, c, x] 0 4 = (M.insH x [a, b, c]).toArray := by
  have h2 := M.less_asymm h1
  have k2 := M.less_asymm k1
  unfold insertionSort
  rw [insOuter_go _ _ _ _ _ (by omega), insOuter_go _ _ _ _ _ (by omega), insOuter_go _ _ _ _ _ (by omega), insOuter_stop _ _ _ _ _ (by omega)]
  have e1 : insInner (ltOf M.cmpH) 0 1 #[a, b, c, x] = #[a, b, c, x] := by simp [insInner, M.ltOf_less, h2]
  have e2 : insInner (ltOf M.cmpH) 0 2 #[a, b, c, x] = #[a, b, c, x] := by simp [insInner, M.ltOf_less, k2]
  rw [show 0 + 1 = 1 from rfl, e1, show 1 + 1 = 2 from rfl, e2]
  by_cases hc : M.less x.1 c.1 = true
  · by_cases hb : M.less x.1 b.1 = true
    · by_cases ha : M.less x.1 a.1 = true
      · simp [insInner, M.ltOf_less, swp, M.insH, ha, hb, hc]
      · simp [insInner, M.ltOf_less, swp, M.insH, ha, hb, hc]
    · have ha : ¬ M.less x.1 a.1 = true := fun h => hb (M.less_trans h h1)
      simp [insInner, M.ltOf_less, swp, M.insH, ha, hb, hc]
  · have hb : ¬ M.less x.1 b.1 = true := fun h => hc (M.less_trans h k1)
    have ha : ¬ M.less x.1 a.1 = true := fun h => hb (M.less_trans h h1)
    simp [insInner, M.ltOf_less, M.insH, ha, hb, hc]
theorem M.ins_all (H : List M.Hd) (x : M.Hd) (hr : M.rise H = true) (h1 : 1 ≤ H.length) (h3 : H.length ≤ 3) : insertionSort (ltOf M.cmpH) (H ++ [x]).toArray 0 (H ++ [x]).toArray.size = (M.insH x H).toArray := by
  match H, hr, h1, h3 with
  | [a], _, _, _ => exact M.ins1 a x
  | [a, b], hr, _, _ =>
    simp only [M.rise, M.riseF, Bool.and_true] at hr
    exact M.ins2 a b x hr
  | [a, b, c], hr, _, _ =>
    simp only [M.rise, M.riseF, Bool.and_true, Bool.and_eq_true] at hr
    exact M.ins3 a b c x hr.1 hr.2
theorem M.insH_len (x : M.Hd) (H : List M.Hd) : (M.insH x H).length = H.length + 1 := by
  induction H with
  | nil => rfl
  | cons h t ih =>
    unfold M.insH
    split
    · rfl
    · simp [ih]
theorem M.insH_mem (x : M.Hd) (H : List M.Hd) (y : M.Hd) : y ∈ M.insH x H ↔ y = x ∨ y ∈ H := by
  induction H with
  | nil => simp [M.insH]
  | cons h t ih =>
    unfold M.insH
    split
    · simp
    · simp only [List.mem_cons, ih]
      constructor
      · rintro (h | h | h) <;> simp [h]
      · rintro (h | h | h) <;> simp [h]
end Go.Proofs.YtcgpgflnihjpiagGreat

/- Plain facts on repos that have changed, with no program in sight. -/
namespace Go.Proofs.YtcgpgflnihjpiagGreat.M
open Go.RowKit

theorem alike_iff (s t : ByteArray) : alike s t = true ↔ s = t := by
  unfold alike
  rw [beq_iff_eq, ByteArray.toList_eq, ByteArray.toList_eq]
  constructor
  · intro h
    have : s.data = t.data := Array.ext' h
    cases s; cases t; simp_all
  · rintro rfl; rfl
theorem less_irr (s : ByteArray) : less s s = false := bless_irr _

/-! ### names -/
def nms (H : List Hd) : List ByteArray := H.map Prod.fst
theorem riseF_nms : ∀ (H H' : List Hd) (s : ByteArray), nms H = nms H' → riseF s H = riseF s H'
  | [], [], _, _ => rfl
  | [], _ :: _, _, h => by simp [nms] at h
  | _ :: _, [], _, h => by simp [nms] at h
  | x :: t, y :: u, s, h => by
    simp only [nms, List.map_cons, List.cons.injEq] at h
    simp only [riseF]
    rw [h.1, riseF_nms t u _ h.2]
theorem rise_nms : ∀ (H H' : List Hd), nms H = nms H' → rise H = rise H'
  | [], [], _ => rfl
  | [], _ :: _, h => by simp [nms] at h
  | _ :: _, [], h => by simp [nms] at h
  | x :: t, y :: u, h => by
    simp only [nms, List.map_cons, List.cons.injEq] at h
    simp only [rise]
    rw [h.1, riseF_nms t u _ h.2]
theorem named_nms (H H' : List Hd) (h : nms H = nms H') : named H = named H' := by
  have e : ∀ H : List Hd, named H = (nms H).all nam := fun H => by unfold named nms; rw [List.all_map]; rfl
  rw [e, e, h]
theorem riseF_all : ∀ (H : List Hd) (s : ByteArray), riseF s H = true → (∀ h ∈ H, less s h.1 = true) ∧ H.Pairwise (fun a b => less a.1 b.1 = true)
  | [], _, _ => ⟨fun _ h => by simp at h, List.Pairwise.nil⟩
  | x :: t, s, h => by
    simp only [riseF, Bool.and_eq_true] at h
    obtain ⟨h1, h2⟩ := riseF_all t x.1 h.2
    refine ⟨fun y hy => ?_, List.pairwise_cons.2 ⟨h1, h2⟩⟩
    rcases List.mem_cons.1 hy with rfl | hy
    · exact h.1
    · exact less_trans h.1 (h1 y hy)
theorem rise_all {H : List Hd} (h : rise H = true) : H.Pairwise (fun a b => less a.1 b.1 = true) := by
  cases H with
  | nil => exact List.Pairwise.nil
  | cons x t =>
    obtain ⟨h1, h2⟩ := riseF_all t x.1 h
    exact List.pairwise_cons.2 ⟨h1, h2⟩
theorem riseF_of : ∀ (H : List Hd) (s : ByteArray), (∀ h ∈ H, less s h.1 = true) → H.Pairwise (fun a b => less a.1 b.1 = true) → riseF s H = true
  | [], _, _, _ => rfl
  | x :: t, s, h1, h2 => by
    simp only [riseF, Bool.and_eq_true]
    exact ⟨h1 x (by simp), riseF_of t x.1 (List.pairwise_cons.1 h2).1 (List.pairwise_cons.1 h2).2⟩
theorem rise_of {H : List Hd} (h : H.Pairwise (fun a b => less a.1 b.1 = true)) : rise H = true := by
  cases H with
  | nil => rfl
  | cons x t => exact riseF_of t x.1 (List.pairwise_cons.1 h).1 (List.pairwise_cons.1 h).2
/-- Heads that rise have each name once. -/
theorem rise_once {H : List Hd} (h : H.Pairwise (fun a b => less a.1 b.1 = true)) : ∀ a ∈ H, ∀ b ∈ H, a.1 = b.1 → a = b := by
  induction H with
  | nil => intro a ha; simp at ha
  | cons x t ih =>
    obtain ⟨h1, h2⟩ := List.pairwise_cons.1 h
    intro a ha b hb e
    rcases List.mem_cons.1 ha with rfl | ha' <;> rcases List.mem_cons.1 hb with rfl | hb'
    · rfl
    · have := h1 b hb'; rw [e, less_irr] at this; simp at this
    · have := h1 a ha'; rw [e, less_irr] at this; simp at this
    · exact ih h2 a ha' b hb' e

theorem rchk_of {C : List Com} {H : List Hd} (h1 : dchk C = 0) (h2 : H.length ≤ 4) (h3 : named H = true) (h4 : inside C.length H = true) (h5 : rise H = true) : rchk C H = 0 := by
  unfold rchk
  rw [if_neg (by rw [h1]; simp), if_neg (by omega), if_neg (by rw [h3]; simp), if_neg (by rw [h4]; simp), if_neg (by rw [h5]; simp)]

theorem hd_mem {C : List Com} {H : List Hd} (hr : rchk C H = 0) {t : ByteArray} {y : Int} (hm : (t, y) ∈ H) : hchk C H t = 0 ∧ hat C H t = y := by
  have hp : 0 ≤ plc H t := (idxF_neg _ H 0).2 (List.any_eq_true.2 ⟨(t, y), hm, (alike_iff t t).2 rfl⟩)
  have hc : hchk C H t = 0 := by unfold hchk; rw [if_neg (by rw [hr]; simp), if_neg (by omega)]
  have hl := plc_lt H t
  have ha := idxF_at (fun h : Hd => alike h.1 t) H 0 hd0 hp
  rw [Nat.sub_zero] at ha
  have hk : (plc H t).toNat < H.length := by omega
  have hmem : H.getD (plc H t).toNat hd0 ∈ H := by simp [List.getD, hk]
  have e1 : (H.getD (plc H t).toNat hd0).1 = t := (alike_iff _ _).1 ha
  have e2 := rise_once (rise_all (rchk_zero hr).2.2.2.2) _ hmem _ hm e1
  refine ⟨hc, ?_⟩
  unfold hat
  rw [if_neg (by rw [hc]; simp), e2]
theorem hd_none {C : List Com} {H : List Hd} (hr : rchk C H = 0) {t : ByteArray} (hn : ∀ y, (t, y) ∉ H) : hchk C H t = 5 ∧ hat C H t = 0 := by
  have hp : plc H t < 0 := by
    by_cases h : 0 ≤ plc H t
    · obtain ⟨x, hx, hx2⟩ := List.any_eq_true.1 ((idxF_neg _ H 0).1 h)
      have e : x.1 = t := (alike_iff _ _).1 hx2
      exact absurd (show (t, x.2) ∈ H by rw [← e]; exact hx) (hn x.2)
    · omega
  have hc : hchk C H t = 5 := by unfold hchk; rw [if_neg (by rw [hr]; simp), if_pos hp]
  refine ⟨hc, ?_⟩
  unfold hat
  rw [if_pos (by rw [hc]; simp)]
theorem hd_in {C : List Com} {H : List Hd} {t : ByteArray} (h : hchk C H t = 0) : (t, hat C H t) ∈ H := by
  obtain ⟨hr, hp⟩ := hchk_zero h
  by_cases hn : ∀ y, (t, y) ∉ H
  · have := (hd_none hr hn).1; omega
  · simp only [Classical.not_forall, Classical.not_not] at hn
    obtain ⟨y, hy⟩ := hn
    rw [(hd_mem hr hy).2]; exact hy
theorem hd_same {C C' : List Com} {H H' : List Hd} (hr : rchk C H = 0) (hr' : rchk C' H' = 0) {t : ByteArray} (h : ∀ y, (t, y) ∈ H ↔ (t, y) ∈ H') : hchk C H t = hchk C' H' t ∧ hat C H t = hat C' H' t := by
  by_cases hn : ∀ y, (t, y) ∉ H
  · obtain ⟨a1, a2⟩ := hd_none hr hn
    obtain ⟨b1, b2⟩ := hd_none hr' (fun y hy => hn y ((h y).2 hy))
    exact ⟨a1.trans b1.symm, a2.trans b2.symm⟩
  · simp only [Classical.not_forall, Classical.not_not] at hn
    obtain ⟨y, hy⟩ := hn
    obtain ⟨a1, a2⟩ := hd_mem hr hy
    obtain ⟨b1, b2⟩ := hd_mem hr' ((h y).1 hy)
    exact ⟨a1.trans b1.symm, a2.trans b2.symm⟩

/-! ### a head that is moved -/
def setH (H : List Hd) (k : Nat) (x : Int) : List Hd := H.set k ((H.getD k hd0).1, x)
theorem nms_set (H : List Hd) (k : Nat) (x : Int) : nms (setH H k x) = nms H := by
  unfold nms setH
  refine List.ext_getElem (by simp) fun i h1 h2 => ?_
  simp only [List.getElem_map, List.getElem_set]
  split
  · rename_i e; subst e
    have : k < H.length := by simpa using h2
    simp [List.getD, this]
  · rfl
theorem set_mem {H : List Hd} {k : Nat} {x : Int} (hk : k < H.length) (h : H.Pairwise (fun a b => less a.1 b.1 = true)) (t : ByteArray) (y : Int) : (t, y) ∈ setH H k x ↔ (t = (H.getD k hd0).1 ∧ y = x) ∨ (t ≠ (H.getD k hd0).1 ∧ (t, y) ∈ H) := by
  have hm : H.getD k hd0 ∈ H := by simp [List.getD, hk]
  have ek : H.getD k hd0 = H[k] := by simp [List.getD, hk]
  unfold setH
  constructor
  · intro hmem
    obtain ⟨i, hi, e⟩ := List.getElem_of_mem hmem
    rw [List.getElem_set] at e
    split at e
    · left; exact ⟨(congrArg Prod.fst e).symm, (congrArg Prod.snd e).symm⟩
    · rename_i hne
      right
      have hi2 : i < H.length := by simpa using hi
      refine ⟨fun he => ?_, by rw [← e]; exact List.getElem_mem hi2⟩
      rcases Nat.lt_or_gt_of_ne hne with hlt | hlt
      · have := List.pairwise_iff_getElem.1 h k i hk hi2 hlt
        rw [e, ← ek, ← he, less_irr] at this; simp at this
      · have := List.pairwise_iff_getElem.1 h i k hi2 hk hlt
        rw [e, ← ek, ← he, less_irr] at this; simp at this
  · rintro (⟨rfl, rfl⟩ | ⟨h1, h2⟩)
    · exact List.mem_iff_getElem.2 ⟨k, by simpa using hk, by simp⟩
    · obtain ⟨i, hi, e⟩ := List.getElem_of_mem h2
      refine List.mem_iff_getElem.2 ⟨i, by simpa using hi, ?_⟩
      rw [List.getElem_set, if_neg, e]
      intro hki
      subst hki
      rw [← ek] at e
      exact h1 (by rw [e])
theorem inside_mono {n n' : Nat} (hn : n ≤ n') {H : List Hd} (h : inside n H = true) : inside n' H = true := by
  refine (inside_iff n' H).2 fun k hk => ?_
  have := (inside_iff n H).1 h k hk
  omega
theorem inside_mem {n : Nat} {H : List Hd} : inside n H = true ↔ ∀ h ∈ H, 0 ≤ h.2 ∧ h.2 < (n : Int) := by
  unfold inside; rw [List.all_eq_true]; simp
theorem named_mem {H : List Hd} : named H = true ↔ ∀ h ∈ H, nam h.1 = true := by
  unfold named; rw [List.all_eq_true]
theorem rchk_set {C C' : List Com} {H : List Hd} (hr : rchk C H = 0) (hd : dchk C' = 0) (hl : C.length ≤ C'.length) {k : Nat} {x : Int} (h0 : 0 ≤ x) (h1 : x < (C'.length : Int)) : rchk C' (setH H k x) = 0 := by
  obtain ⟨a1, a2, a3, a4, a5⟩ := rchk_zero hr
  have e := nms_set H k x
  refine rchk_of hd (by unfold setH; simpa using a2) (by rw [named_nms _ _ e]; exact a3) ?_ (by rw [rise_nms _ _ e]; exact a5)
  refine inside_mem.2 fun h hm => ?_
  have a4 := inside_mem.1 (inside_mono hl a4)
  unfold setH at hm
  rcases List.mem_or_eq_of_mem_set hm with hm | rfl
  · exact a4 h hm
  · exact ⟨h0, h1⟩
/-- The head that is moved, and the others. -/
theorem moved {C C' : List Com} {H : List Hd} {s : ByteArray} {x : Int} (hs : hchk C H s = 0) (hr' : rchk C' (setH H (plc H s).toNat x) = 0) :
    (hchk C' (setH H (plc H s).toNat x) s = 0 ∧ hat C' (setH H (plc H s).toNat x) s = x) ∧ ∀ t, t ≠ s → hchk C' (setH H (plc H s).toNat x) t = hchk C H t ∧ hat C' (setH H (plc H s).toNat x) t = hat C H t := by
  obtain ⟨hr, hp⟩ := hchk_zero hs
  have hl := plc_lt H s
  have hk : (plc H s).toNat < H.length := by omega
  have ha := idxF_at (fun h : Hd => alike h.1 s) H 0 hd0 hp
  rw [Nat.sub_zero] at ha
  have e1 : (H.getD (plc H s).toNat hd0).1 = s := (alike_iff _ _).1 ha
  have S := fun t y => set_mem (x := x) hk (rise_all (rchk_zero hr).2.2.2.2) t y
  rw [e1] at S
  refine ⟨hd_mem hr' ((S s x).2 (Or.inl ⟨rfl, rfl⟩)), fun t ht => hd_same hr' hr fun y => ?_⟩
  rw [S t y]
  simp [ht]

/-! ### a commit more -/
theorem dchkF_snoc (c : Com) (hc : chk c.1 = 0) : ∀ (L : List Com) (n : Nat), dchkF n L = 0 → pr (n + L.length) c.2 = true → dchkF n (L ++ [c]) = 0
  | [], n, _, hp => by
    simp only [List.nil_append, dchkF]
    rw [if_neg (by rw [hc]; simp), if_pos (by simpa using hp)]
  | d :: t, n, h, hp => by
    rw [List.cons_append, dchkF]
    rw [dchkF] at h
    split at h
    · rename_i h1; exact absurd h h1
    · rename_i h1
      split at h
      · rename_i h2
        rw [if_neg h1, if_pos h2]
        exact dchkF_snoc c hc t (n + 1) h (by rw [show n + 1 + t.length = n + (d :: t).length by simp; omega]; exact hp)
      · omega
theorem dchk_snoc {L : List Com} {c : Com} (h : dchk L = 0) (hl : L.length < 14) (hc : chk c.1 = 0) (hp : pr L.length c.2 = true) : dchk (L ++ [c]) = 0 := by
  rw [dchk_few _ (by simp; omega)]
  rw [dchk_few _ (by omega)] at h
  exact dchkF_snoc c hc L 0 h (by simpa using hp)
theorem pr_one {n : Nat} {x : Int} (h0 : 0 ≤ x) (h1 : x < (n : Int)) : pr n [x] = true := by
  unfold pr ris ris
  simp; omega
theorem pr_two {n : Nat} {x y : Int} (h0 : 0 ≤ x) (h1 : x < y) (h2 : y < (n : Int)) : pr n [x, y] = true := by
  unfold pr ris ris ris
  simp; omega
theorem mrows_ok {b l m : List (Int × Int)} (h : mergeE b l m = 0) : chk (mrows b l m) = 0 := by
  unfold mergeE at h
  split at h
  · rename_i h1; exact absurd h h1
  · rename_i h1
    split at h
    · rename_i h2; exact absurd h h2
    · rename_i h2
      split at h
      · rename_i h3; exact absurd h h3
      · rename_i h3
        split at h
        · omega
        · rename_i h4
          refine (chk_zero _).2 ⟨by omega, ofTab_ok _ fun i _ => ?_⟩
          have r1 := find_range (key := (i : Int)) ((chk_zero b).1 (by simpa using h1)).2
          have r2 := find_range (key := (i : Int)) ((chk_zero l).1 (by simpa using h2)).2
          have r3 := find_range (key := (i : Int)) ((chk_zero m).1 (by simpa using h3)).2
          unfold mtab mval
          split
          · exact r2
          · split
            · exact r3
            · exact r2
theorem patchE_parts {l : List (Int × Int)} {d : List Chg} (h : patchE l d = 0) : chk l = 0 ∧ fine d = true ∧ clashF l d = false ∧ (ofTab (tab (fun k => find k l) d)).length ≤ 40 := by
  unfold patchE at h
  split at h
  · rename_i h1; exact absurd h h1
  · rename_i h1
    split at h
    · omega
    · rename_i h2
      split at h
      · omega
      · rename_i h3
        split at h
        · omega
        · rename_i h4
          exact ⟨by simpa using h1, by simpa using h2, by simpa using h3, by omega⟩
theorem patchV_ok {l : List (Int × Int)} {d : List Chg} (h : patchE l d = 0) : chk (patchV l d) = 0 := by
  obtain ⟨h1, h2, h3, h4⟩ := patchE_parts h
  unfold patchV
  rw [if_pos h]
  refine (chk_zero _).2 ⟨h4, ofTab_ok _ fun i hi => ?_⟩
  have F := (fine_iff d).1 h2
  rcases tab_cases (fun k => find k l) d F.2 (i : Int) with ⟨c, hc, _, e⟩ | ⟨_, e⟩
  · rw [e]; have := F.1 c hc; omega
  · rw [e]; exact find_range ((chk_zero l).1 h1).2

/-! ### heads that are sorted in, and heads that are taken out -/
theorem insH_rise {x : Hd} {H : List Hd} (h : H.Pairwise (fun a b => less a.1 b.1 = true)) (hn : ∀ y ∈ H, y.1 ≠ x.1) : (insH x H).Pairwise (fun a b => less a.1 b.1 = true) := by
  induction H with
  | nil => simp [insH]
  | cons y t ih =>
    obtain ⟨h1, h2⟩ := List.pairwise_cons.1 h
    unfold insH
    split
    · rename_i hl
      refine List.pairwise_cons.2 ⟨fun z hz => ?_, h⟩
      rcases List.mem_cons.1 hz with rfl | hz
      · exact hl
      · exact less_trans hl (h1 z hz)
    · rename_i hl
      refine List.pairwise_cons.2 ⟨fun z hz => ?_, ih h2 (fun z hz => hn z (by simp [hz]))⟩
      rcases (insH_mem x t z).1 hz with hzx | hz
      · rw [hzx]
        have hl : less x.1 y.1 = false := by simpa using hl
        have := leq_not x.1 y.1
        cases hyx : less y.1 x.1 with
        | true => rfl
        | false =>
          rw [hyx] at this
          have e2 : (Op.bytesLess x.1.toList y.1.toList) = false := hl
          rw [e2] at this
          simp only [Bool.false_or, Bool.not_false] at this
          exact absurd ((alike_iff x.1 y.1).1 this).symm (hn y (by simp))
      · exact h1 z hz
end Go.Proofs.YtcgpgflnihjpiagGreat.M

/- repo.isName, by the library's own text of strings.ContainsFunc; the reference's IsName. -/
namespace Go.Proofs.YtcgpgflnihjpiagGreat
open Go.RowKit Go.PlainAid Go.Shelf

theorem notLetter_any (r : Int) (w : World) : Calls Tryz.prog 61 #[.int .i32 r] w fun e w' => e = .returned (.bool (decide (r < 97 ∨ 122 < r))) ∧ w' = w := by
  go_enter Tryz.func61, Tryz.ntmps61
  go_wp2
  all_goals (go_ret; exact ⟨ret_bool (by simp; try omega), rfl⟩)

set_option maxHeartbeats 2000000 in
theorem indexFunc_any (s : ByteArray) (w : World) :
    Calls Tryz.prog 129 #[.string s, .func (.func 61) #[] #[], .bool true] w fun e w' => ∃ r : Int, e = .returned (.int .i64 r) ∧ Hid ((M.lets s 0 = true → r = -1) ∧ (M.lets s 0 = false → 0 ≤ r)) ∧ Below w.heap.size w w' := by
  have eg : ∀ args w, (callFunc 61 args).run Tryz.prog w = .ok (.enter 61 args) w := enters_of Tryz.func61 (by kernel_rfl) rfl
  go_enter Tryz.func129, Tryz.ntmps129
  go_wp2
  go_loopg [] s.size (fun gf wx => ∃ pos : Nat, wx.heap[w.heap.size]? = some (.stringIter s pos) ∧ Below w.heap.size w wx ∧ pos + gf = s.size ∧ Aside (M.lets s pos = M.lets s 0))
  case atStart => exact ⟨0, World.iter_heap w s 0, (Below.refl _ w).alloc (Nat.le_refl _) _, by omega, rfl⟩
  case round =>
    obtain ⟨pos, hit, hbw, hfu, A⟩ := hrel
    by_cases hps : pos < s.size
    · have hnx : ∀ ty, (Instr.next (.pointer (some ⟨w.heap.size, 0, none⟩)) true ty).run Tryz.prog wr = _ := fun ty => Lib.run_next_any_at wr w.heap.size s pos ty hit hps
      obtain ⟨R, hR⟩ : ∃ R, (Utf8.decode s pos).1 = R := ⟨_, rfl⟩
      obtain ⟨K, hK⟩ : ∃ K, (Utf8.decode s pos).2 = K := ⟨_, rfl⟩
      rw [hR, hK] at hnx
      have hit2 := Lib.iterAt_heap wr w.heap.size s pos (pos + K) hit
      have hbw2 := Lib.below_iterAt hbw (k := w.heap.size) (Nat.le_refl _) s (pos + K)
      obtain ⟨W, hWd⟩ : ∃ W, wr.iterAt w.heap.size s (pos + K) = W := ⟨_, rfl⟩
      rw [hWd] at hnx hit2 hbw2
      have cS := notLetter_any (R : Int) W
      by_cases hl : 97 ≤ bt s pos ∧ bt s pos ≤ 122
      · have hd := M.bt_decode s pos hps (by omega)
        have e1 : (R : Int) = bt s pos := by rw [← hR, hd]; simp; omega
        have e2 : K = 1 := by rw [← hK, hd]
        have e3 : decide ((R : Int) < 97 ∨ 122 < (R : Int)) = false := decide_eq_false (by omega)
        rw [e3] at cS
        have A2 : Aside (M.lets s (pos + K) = M.lets s 0) := by unfold Aside; rw [e2, ← M.lets_good s pos hl.1 hl.2]; exact A.out
        have CS : Hid (Calls Tryz.prog 61 #[.int .i32 (R : Int)] W fun e w' => e = .returned (.bool false) ∧ w' = W) := cS
        have HK1 : Hid (K = 1) := e2
        clear cS hd e1 e2 e3 hR hK hWd hl A
        go_wp2_with fail
        refine CS.out.mono ?_
        rintro e w' ⟨rfl, hw'⟩
        subst hw'
        go_wp2
        go_roundg (gk - 1)
        case measure => omega
        case rel => exact ⟨pos + K, hit2, hbw2, by have := HK1.out; omega, A2⟩
      · have e3 : decide ((R : Int) < 97 ∨ 122 < (R : Int)) = true := by
          rw [decide_eq_true]
          by_cases h8 : bt s pos < 128
          · have hd := M.bt_decode s pos hps h8
            have h0 := bt_nonneg s pos
            have e1 : (R : Int) = bt s pos := by rw [← hR, hd]; simp; omega
            omega
          · have := M.far_decode s pos hps (by omega)
            rw [hR] at this; omega
        rw [e3] at cS
        have A2 : Aside (M.lets s 0 = false) := by unfold Aside; rw [← A.out]; exact M.lets_bad s pos hps (by omega)
        have CS : Hid (Calls Tryz.prog 61 #[.int .i32 (R : Int)] W fun e w' => e = .returned (.bool true) ∧ w' = W) := cS
        clear cS e3 hR hK hWd hl A
        go_wp2_with fail
        refine CS.out.mono ?_
        rintro e w' ⟨rfl, hw'⟩
        subst hw'
        go_wp2
        go_ret
        exact ⟨(pos : Int), rfl, ⟨fun h => by rw [A2.out] at h; simp at h, fun _ => by omega⟩, hbw2⟩
    · have hnx : ∀ ty, (Instr.next (.pointer (some ⟨w.heap.size, 0, none⟩)) true ty).run Tryz.prog wr = _ := fun ty => Lib.run_next_end_at wr w.heap.size s pos ty hit hps
      have A2 : Aside (M.lets s 0 = true) := by unfold Aside; rw [← A.out]; exact M.lets_end s pos (by omega)
      clear A
      go_wp2
      go_ret
      exact ⟨-1, rfl, ⟨fun _ => rfl, fun h => by rw [A2.out] at h; simp at h⟩, hbw⟩

theorem scontains_any (s : ByteArray) (w : World) :
    Calls Tryz.prog 60 #[.string s, .func (.func 61) #[] #[]] w fun e w' => e = .returned (.bool (!M.lets s 0)) ∧ Below w.heap.size w w' := by
  have H1 : Hid (Calls Tryz.prog 106 #[.string s, .func (.func 61) #[] #[]] w fun e w' => ∃ r : Int, e = .returned (.int .i64 r) ∧ Hid ((M.lets s 0 = true → r = -1) ∧ (M.lets s 0 = false → 0 ≤ r)) ∧ Below w.heap.size w w') := by
    unfold Hid
    have H2 : Hid (Calls Tryz.prog 129 #[.string s, .func (.func 61) #[] #[], .bool true] w fun e w' => ∃ r : Int, e = .returned (.int .i64 r) ∧ Hid ((M.lets s 0 = true → r = -1) ∧ (M.lets s 0 = false → 0 ≤ r)) ∧ Below w.heap.size w w') := indexFunc_any s w
    go_enter Tryz.func106, Tryz.ntmps106
    go_wp2_with fail
    refine H2.out.mono ?_
    rintro e w' ⟨r, rfl, hr, hb⟩
    go_wp2
    go_ret
    exact ⟨r, rfl, hr, hb⟩
  go_enter Tryz.func60, Tryz.ntmps60
  go_wp2_with fail
  refine H1.out.mono ?_
  rintro e w' ⟨r, rfl, hr, hb⟩
  go_wp2
  go_ret
  refine ⟨ret_bool ?_, hb⟩
  cases h : M.lets s 0
  · have := hr.out.2 h; simp; exact this
  · have := hr.out.1 h; subst this; simp

theorem isName_any (s : ByteArray) (w : World) (hm : s.size ≤ 9223372036854775807) : Calls Tryz.prog 32 #[.string s] w fun e w' => e = .returned (.bool (M.nam s)) ∧ Below w.heap.size w w' := by
  have hsz : s.toList.length = s.size := by rw [ByteArray.toList_eq]; rfl
  by_cases h0 : s.size = 0
  · rw [M.nam_none s h0]
    have e0 : s.toList = [] := List.eq_nil_of_length_eq_zero (by omega)
    clear h0 hsz
    go_enter Tryz.func32, Tryz.ntmps32
    go_wp2
    go_ret
    exact ⟨rfl, Below.refl _ _⟩
  · have e0 : s.toList.isEmpty = false := by
      rw [List.isEmpty_eq_false_iff]
      intro h
      rw [h] at hsz; simp at hsz; omega
    have e1 : ¬ s.toList = [] := by intro h; rw [h] at e0; simp at e0
    clear hsz
    by_cases h8 : 8 < s.size
    · rw [M.nam_long s h8]
      have h8' : decide (8 < (s.size : Int)) = true := by simp; omega
      go_enter Tryz.func32, Tryz.ntmps32
      go_wp2
      go_ret
      exact ⟨rfl, Below.refl _ _⟩
    · rw [M.nam_few s (by omega) (by omega)]
      have h8' : decide (8 < (s.size : Int)) = false := by simp; omega
      have H1 : Hid (Calls Tryz.prog 60 #[.string s, .func (.func 61) #[] #[]] w fun e w' => e = .returned (.bool (!M.lets s 0)) ∧ Below w.heap.size w w') := scontains_any s w
      go_enter Tryz.func32, Tryz.ntmps32
      go_wp2_with fail
      refine H1.out.mono ?_
      rintro e w' ⟨rfl, hb⟩
      go_wp2
      go_ret
      exact ⟨ret_bool (by simp), hb⟩
end Go.Proofs.YtcgpgflnihjpiagGreat

/- repo.Check, repo.Head. -/
namespace Go.Proofs.YtcgpgflnihjpiagGreat
open Go.RowKit Go.Shelf

theorem check1_any (x : M.Hd) (w : World) (hm : x.1.size ≤ 9223372036854775807) :
    Calls Tryz.prog 31 #[.agg #[.string x.1, .int .i64 x.2]] w fun e w' => e = .returned (.bool (!M.nam x.1)) ∧ Below w.heap.size w w' := by
  obtain ⟨W, hW⟩ : ∃ W, W = w.alloc (.cells #[.string x.1, .int .i64 x.2] 58) := ⟨_, rfl⟩
  have hb : Below w.heap.size w W := by rw [hW]; exact (Below.refl _ _).alloc (Nat.le_refl _) _
  have HN : Hid (Calls Tryz.prog 32 #[.string x.1] W fun e w' => e = .returned (.bool (M.nam x.1)) ∧ Below W.heap.size W w') := isName_any x.1 W hm
  have HW : Hid (W = w.alloc (.cells #[.string x.1, .int .i64 x.2] 58)) := hW
  clear hW
  go_enter Tryz.func31, Tryz.ntmps31
  go_wp2_with fail
  rw [← HW.out]
  refine HN.out.mono ?_
  rintro e w' ⟨rfl, hb1⟩
  go_wp2
  go_ret
  exact ⟨rfl, dbelow2 hb hb1⟩

theorem check2_any (x : M.Hd) (p n cap : Nat) (a : Option Addr) (w : World) (hp : w.cell? ⟨p, 0, none⟩ = some (.slice a n cap)) (hpl : p < w.heap.size) :
    Calls Tryz.prog 33 #[.agg #[.string x.1, .int .i64 x.2], .pointer (some ⟨p, 0, none⟩)] w fun e w' => e = .returned (.bool (!decide (0 ≤ x.2 ∧ x.2 < (n : Int)))) ∧ Below w.heap.size w w' := by
  have hb : Below w.heap.size w (w.alloc (.cells #[.string x.1, .int .i64 x.2] 58)) := (Below.refl _ _).alloc (Nat.le_refl _) _
  have hp1 : (w.alloc (.cells #[.string x.1, .int .i64 x.2] 58)).cell? ⟨p, 0, none⟩ = some (.slice a n cap) := (hb.cell (p := ⟨p, 0, none⟩) hpl).trans hp
  go_enter Tryz.func33, Tryz.ntmps33
  go_wp2
  all_goals (go_ret; exact ⟨ret_bool (by rw [Bool.eq_iff_iff]; simp; try omega), hb⟩)

theorem rise_none (a : Option Addr) (cap : Nat) (w : World) :
    Calls Tryz.prog 34 #[.slice a 0 cap] w fun e w' => e = .returned (.bool true) ∧ w' = w := by
  go_enter Tryz.func34, Tryz.ntmps34
  go_wp2
  refine wp_loop_rounds 1 ?_
  rw [rounds_succ]
  go_wp2
  go_ret
  exact ⟨rfl, rfl⟩
set_option maxHeartbeats 2000000 in
theorem rise_some (b off n cap : Nat) (H : List M.Hd) (w : World) (hm : n ≤ 9223372036854775807) (hl : H.length = n) (hB : b < w.heap.size)
    (hc : ∀ i, i < n → w.cell? ⟨b, off + i * 2, none⟩ = some (.string (H.getD i M.hd0).1) ∧ w.cell? ⟨b, off + i * 2 + 1, none⟩ = some (.int .i64 (H.getD i M.hd0).2) ∧ (H.getD i M.hd0).1.size ≤ 9223372036854775807) :
    Calls Tryz.prog 34 #[.slice (some ⟨b, off, none⟩) n cap] w fun e w' => e = .returned (.bool (M.riseF (ByteArray.mk #[]) H)) ∧ Below w.heap.size w w' := by
  have HC : Aside (∀ i, i < n → w.cell? ⟨b, off + i * 2, none⟩ = some (.string (H.getD i M.hd0).1) ∧ w.cell? ⟨b, off + i * 2 + 1, none⟩ = some (.int .i64 (H.getD i M.hd0).2) ∧ (H.getD i M.hd0).1.size ≤ 9223372036854775807) := hc
  have HL : Aside (H.length = n) := hl
  clear hc hl
  go_enter Tryz.func34, Tryz.ntmps34
  go_wp2
  go_loopg [3, 8] n (fun g v i wr => ∃ (k : Nat) (s : ByteArray), k + g = n ∧ i = .int .i64 k ∧ v = .string s ∧ Below w.heap.size w wr ∧ Aside (M.riseF s (H.drop k) = M.riseF (ByteArray.mk #[]) H))
  case atStart => exact ⟨0, _, by omega, rfl, rfl, Below.refl _ _, by simp [Aside]⟩
  case round =>
    obtain ⟨k, s, hk, rfl, rfl, hbel, A⟩ := hrel
    have hsz := hbel.size
    by_cases hlt : k < n
    · obtain ⟨x, hx⟩ : ∃ x, H.getD k M.hd0 = x := ⟨_, rfl⟩
      have c0 : wr.cell? ⟨b, off + k * 2, none⟩ = some (.string x.1) := by rw [hbel.cell (p := ⟨b, off + k * 2, none⟩) hB, (HC.out k hlt).1, hx]
      have c1 : wr.cell? ⟨b, off + k * 2 + 1, none⟩ = some (.int .i64 x.2) := by rw [hbel.cell (p := ⟨b, off + k * 2 + 1, none⟩) hB, (HC.out k hlt).2.1, hx]
      have hA := M.riseF_at s H k (by rw [HL.out]; exact hlt) x hx
      rw [A.out] at hA
      have HA : Aside (M.riseF (ByteArray.mk #[]) H = (M.less s x.1 && M.riseF x.1 (H.drop (k + 1)))) := hA
      have hb1 := hbel.alloc hsz (.cells #[.string x.1, .int .i64 x.2] 58)
      have hle := M.leq_not x.1 s
      obtain ⟨t, ht⟩ : ∃ t, M.less s x.1 = t := ⟨_, rfl⟩
      rw [ht] at hle
      have HT : Aside (M.less s x.1 = t) := ht
      clear hx hA A ht
      have hki : (k : Int) < (n : Int) := by omega
      cases t with
      | true =>
        go_wp2
        go_roundg (gk - 1)
        case measure => omega
        case rel => exact ⟨k + 1, x.1, by omega, by go_num, rfl, hb1, by unfold Aside; rw [HA.out, HT.out]; rfl⟩
      | false =>
        go_wp2
        go_ret
        exact ⟨ret_bool (by rw [HA.out, HT.out]; rfl), hb1⟩
    · go_wp2
      go_ret
      exact ⟨ret_bool (by rw [← A.out]; exact (M.riseF_end s H k (by rw [HL.out]; omega)).symm), hbel⟩
theorem rise_any (a : Option Addr) (n cap : Nat) (H : List M.Hd) (w : World) (h : Hs w a n H) (hm : n ≤ 9223372036854775807) :
    Calls Tryz.prog 34 #[.slice a n cap] w fun e w' => e = .returned (.bool (M.riseF (ByteArray.mk #[]) H)) ∧ Below w.heap.size w w' := by
  rcases h.cases with ⟨rfl, rfl⟩ | ⟨b, off, rfl, hn, hl, hB, hc⟩
  · refine (rise_none a cap w).mono ?_
    rintro e w' ⟨rfl, rfl⟩
    exact ⟨rfl, Below.refl _ _⟩
  · exact rise_some b off n cap H w hm hl hB hc

set_option maxHeartbeats 4000000 in
theorem rcheck_any (a : Option Addr) (n cap : Nat) (C : List M.Com) (a2 : Option Addr) (n2 cap2 : Nat) (H : List M.Hd) (w : World) (hC : Cm w a n C) (hn : n ≤ 9223372036854775807) (hH : Hs w a2 n2 H) (hn2 : n2 ≤ 9223372036854775807) :
    Calls Tryz.prog 10 #[.agg #[.slice a n cap, .slice a2 n2 cap2]] w fun e w' => e = .returned (.int .i64 (M.rchk C H)) ∧ Below w.heap.size w w' := by
  obtain ⟨p, hp⟩ : ∃ p, p = w.heap.size := ⟨_, rfl⟩
  obtain ⟨W, hW⟩ : ∃ W, W = w.alloc (.cells #[.slice a n cap, .slice a2 n2 cap2] 35) := ⟨_, rfl⟩
  have hb : Below w.heap.size w W := by rw [hW]; exact (Below.refl _ _).alloc (Nat.le_refl _) _
  have q0 : W.cell? ⟨p, 0, none⟩ = some (.slice a n cap) := by rw [hW, hp]; simp [go_sem]
  have q1 : W.cell? ⟨p, 1, none⟩ = some (.slice a2 n2 cap2) := by rw [hW, hp]; simp [go_sem]
  have hpW : p < W.heap.size := by rw [hW, hp]; simp
  have HD := dcheck_any a n cap C W (hC.below hb (Nat.le_refl _)) hn
  have HHs : Aside (Hs W a2 n2 H) := hH.below hb (Nat.le_refl _)
  have hCl : C.length = n := hC.1
  have hHl : H.length = n2 := hH.1
  have HCl : Aside (C.length = n) := hCl
  have HHl : Aside (H.length = n2) := hHl
  obtain ⟨c, hc⟩ : ∃ c, c = M.dchk C := ⟨_, rfl⟩
  rw [← hc] at HD
  have HCc : Aside (c = M.dchk C) := hc
  have HDD : Hid (Calls Tryz.prog 29 #[.slice a n cap] W fun e w' => e = .returned (.int .i64 c) ∧ Below W.heap.size W w') := HD
  have HW : Hid (W = w.alloc (.cells #[.slice a n cap, .slice a2 n2 cap2] 35)) := hW
  have HP : Aside (p = w.heap.size) := hp
  clear hW HD hc hCl hHl hC hH hp
  have after : ∀ w1, Below W.heap.size W w1 → w1.cell? ⟨p, 0, none⟩ = some (.slice a n cap) ∧ w1.cell? ⟨p, 1, none⟩ = some (.slice a2 n2 cap2) ∧ Hs w1 a2 n2 H := fun w1 h => ⟨(h.cell (p := ⟨p, 0, none⟩) hpW).trans q0, (h.cell (p := ⟨p, 1, none⟩) hpW).trans q1, HHs.out.below h (Nat.le_refl _)⟩
  have HAf : Aside (∀ w1, Below W.heap.size W w1 → w1.cell? ⟨p, 0, none⟩ = some (.slice a n cap) ∧ w1.cell? ⟨p, 1, none⟩ = some (.slice a2 n2 cap2) ∧ Hs w1 a2 n2 H) := after
  clear after q0 q1
  go_enter Tryz.func10, Tryz.ntmps10
  go_wp2_with fail
  rw [← HW.out, ← HP.out]
  refine HDD.out.mono ?_
  rintro e w1 ⟨rfl, hb1⟩
  obtain ⟨d0, d1, hs1⟩ := HAf.out w1 hb1
  by_cases hz : c = 0
  · have hne : (c != 0) = false := by simp [hz]
    have HZ : Aside (M.dchk C = 0) := by unfold Aside; rw [← HCc.out]; exact hz
    clear hz
    by_cases h4 : 4 < n2
    · have E : Aside (M.rchk C H = 2) := by unfold Aside M.rchk; rw [if_neg (by rw [HZ.out]; simp), if_pos (by rw [HHl.out]; exact h4)]
      have h4' : decide (4 < (n2 : Int)) = true := by simp; omega
      go_wp2
      go_ret
      exact ⟨ret_int E.out.symm, hb.trans (hb1.mono hb.size)⟩
    · have h4' : decide (4 < (n2 : Int)) = false := by simp; omega
      have E1 : Aside (M.rchk C H = if M.named H = false then 4 else if M.inside C.length H = false then 1 else if M.rise H = false then 1 else 0) := by unfold Aside M.rchk; rw [if_neg (by rw [HZ.out]; simp), if_neg (by rw [HHl.out]; exact h4)]
      have K1 := hcontains_any 31 [] (enters_of Tryz.func31 (by kernel_rfl) rfl) (fun h => !M.nam h.1) a2 n2 cap2 H w1 hs1 hn2 (fun W' x hx hbx => check1_any x W' (hs1.small x hx))
      rw [M.named_any] at K1
      obtain ⟨t, ht⟩ : ∃ t, M.named H = t := ⟨_, rfl⟩
      rw [ht] at K1
      have HT : Aside (M.named H = t) := ht
      have KK1 : Hid (Calls Tryz.prog 30 #[.slice a2 n2 cap2, .func (.func 31) #[] #[]] w1 fun e w' => e = .returned (.bool (!t)) ∧ Below w1.heap.size w1 w') := K1
      clear K1 ht hs1
      go_wp2_with fail
      refine KK1.out.mono ?_
      rintro e w2 ⟨rfl, hb2⟩
      have b2 := dbelow2 hb1 hb2
      obtain ⟨d0', d1', hs2⟩ := HAf.out w2 b2
      have hp2 : p < w2.heap.size := Nat.lt_of_lt_of_le hpW b2.size
      clear d0 d1 hb1 hb2
      cases t with
      | false =>
        go_wp2
        go_ret
        exact ⟨ret_int (by rw [E1.out, HT.out]; rfl), hb.trans (b2.mono hb.size)⟩
      | true =>
        have K2 := hcontains_any 33 [.pointer (some ⟨p, 0, none⟩)] (enters_of Tryz.func33 (by kernel_rfl) rfl) (fun h => !decide (0 ≤ h.2 ∧ h.2 < (n : Int))) a2 n2 cap2 H w2 hs2 hn2 (fun W' x hx hbx => check2_any x p n cap a W' ((hbx.cell (p := ⟨p, 0, none⟩) hp2).trans d0') (Nat.lt_of_lt_of_le hp2 hbx.size))
        rw [M.inside_any] at K2
        obtain ⟨u, hu⟩ : ∃ u, M.inside n H = u := ⟨_, rfl⟩
        rw [hu] at K2
        have HU : Aside (M.inside C.length H = u) := by unfold Aside; rw [HCl.out]; exact hu
        have KK2 : Hid (Calls Tryz.prog 30 #[.slice a2 n2 cap2, .func (.func 33) #[] #[.pointer (some ⟨p, 0, none⟩)]] w2 fun e w' => e = .returned (.bool (!u)) ∧ Below w2.heap.size w2 w') := K2
        clear K2 hu hs2
        go_wp2_with fail
        refine KK2.out.mono ?_
        rintro e w3 ⟨rfl, hb3⟩
        have b3 := dbelow2 b2 hb3
        obtain ⟨e0, e1, hs3⟩ := HAf.out w3 b3
        clear d0' d1' hb3 b2
        cases u with
        | false =>
          go_wp2
          go_ret
          exact ⟨ret_int (by rw [E1.out, HT.out, HU.out]; rfl), hb.trans (b3.mono hb.size)⟩
        | true =>
          have K3 := rise_any a2 n2 cap2 H w3 hs3 hn2
          rw [M.riseF_none H HT.out] at K3
          obtain ⟨v, hv⟩ : ∃ v, M.rise H = v := ⟨_, rfl⟩
          rw [hv] at K3
          have HV : Aside (M.rise H = v) := hv
          have KK3 : Hid (Calls Tryz.prog 34 #[.slice a2 n2 cap2] w3 fun e w' => e = .returned (.bool v) ∧ Below w3.heap.size w3 w') := K3
          clear K3 hv hs3
          go_wp2_with fail
          refine KK3.out.mono ?_
          rintro e w4 ⟨rfl, hb4⟩
          have b4 := dbelow2 b3 hb4
          cases v with
          | false =>
            go_wp2
            go_ret
            exact ⟨ret_int (by rw [E1.out, HT.out, HU.out, HV.out]; rfl), hb.trans (b4.mono hb.size)⟩
          | true =>
            go_wp2
            go_ret
            exact ⟨ret_int (by rw [E1.out, HT.out, HU.out, HV.out]; rfl), hb.trans (b4.mono hb.size)⟩
  · have hne : (c != 0) = true := by simp [hz]
    have E : Aside (M.rchk C H = c) := by unfold Aside M.rchk; rw [if_pos (by rw [← HCc.out]; exact hz)]; exact HCc.out.symm
    clear hz
    go_wp2
    go_ret
    exact ⟨ret_int E.out.symm, hb.trans (hb1.mono hb.size)⟩
end Go.Proofs.YtcgpgflnihjpiagGreat

/- A repo in its box. -/
namespace Go.Proofs.YtcgpgflnihjpiagGreat
open Go.RowKit

theorem ret_two' {k : IntKind} {v : Value} {b b' : Int} (h : b = b') : Ending.returned (.tuple #[v, .int k b]) = .returned (.tuple #[v, .int k b']) := by rw [h]
theorem ret_pair {k k' : IntKind} {a a' b b' : Int} (h : a = a') (h' : b = b') : Ending.returned (.tuple #[.int k a, .int k' b]) = .returned (.tuple #[.int k a', .int k' b']) := by rw [h, h']
/-- What a call that is handed a repo has of it: its box, its commits, its heads. -/
structure InBox (w : World) (p : Nat) (a : Option Addr) (n cap : Nat) (C : List M.Com) (a2 : Option Addr) (n2 cap2 : Nat) (H : List M.Hd) : Prop where
  c0 : w.cell? ⟨p, 0, none⟩ = some (.slice a n cap)
  c1 : w.cell? ⟨p, 1, none⟩ = some (.slice a2 n2 cap2)
  lt : p < w.heap.size
  cm : Cm w a n C
  hs : Hs w a2 n2 H
theorem InBox.below {w w' : World} {p : Nat} {a : Option Addr} {n cap : Nat} {C : List M.Com} {a2 : Option Addr} {n2 cap2 : Nat} {H : List M.Hd} (h : InBox w p a n cap C a2 n2 cap2 H) (hb : Below w.heap.size w w') : InBox w' p a n cap C a2 n2 cap2 H :=
  ⟨(hb.cell (p := ⟨p, 0, none⟩) h.lt).trans h.c0, (hb.cell (p := ⟨p, 1, none⟩) h.lt).trans h.c1, Nat.lt_of_lt_of_le h.lt hb.size, h.cm.below hb (Nat.le_refl _), h.hs.below hb (Nat.le_refl _)⟩
theorem InBox.new (w : World) (a : Option Addr) (n cap : Nat) (C : List M.Com) (a2 : Option Addr) (n2 cap2 : Nat) (H : List M.Hd) (hC : Cm w a n C) (hH : Hs w a2 n2 H) : InBox (w.alloc (.cells #[.slice a n cap, .slice a2 n2 cap2] 35)) w.heap.size a n cap C a2 n2 cap2 H := by
  have hb : Below w.heap.size w (w.alloc (.cells #[.slice a n cap, .slice a2 n2 cap2] 35)) := (Below.refl _ _).alloc (Nat.le_refl _) _
  exact ⟨by simp [go_sem], by simp [go_sem], by simp, hC.below hb (Nat.le_refl _), hH.below hb (Nat.le_refl _)⟩
theorem M.hat_zero {C : List M.Com} {H : List M.Hd} {s : ByteArray} (h : M.hchk C H s ≠ 0) : M.hat C H s = 0 := by unfold M.hat; rw [if_pos h]
end Go.Proofs.YtcgpgflnihjpiagGreat
