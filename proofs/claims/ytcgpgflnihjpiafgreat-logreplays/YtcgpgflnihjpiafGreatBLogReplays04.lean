/- The reader of bytes: acts; what ends too early is left by a panic, which is recovered. -/
import Derived.Test.YtcgpgflnihjpiafGreatBLogReplays03
import Derived.Defers
import Derived.Recover
import Derived.Laws.Pointers
import Derived.Deep.AppendLies
import Derived.Test.YtcgpgflnihjpiafGreatBLogReplays02
import Derived.Test.YtcgpgflnihjpiafGreatBLogReplays01
import Derived.Deep.RegionHeld
import Derived.Laws.AppendOwnNone
namespace Go.Proofs.YtcgpgflnihjpiafGreat
open Go.RowKit

def isAct (base : Nat) (x : M.Act) (v : Value) (w : World) : Prop := ∃ a m cap, v = actV x a m cap ∧ OwnC w base (.slice a m cap) x.chs
theorem M.rA_no1 {l : M.By} (h : M.rB l = none) : M.rA l = none := by unfold M.rA; rw [h]
theorem M.rA_at {l l1 : M.By} {k : Int} (h : M.rB l = some (k, l1)) : M.rA l = (match M.rT l1 with | none => none | some (o, l2) => match M.rT l2 with | none => none | some (n, l3) => match M.rL M.rC l3 with | none => none | some (c, l4) => some (⟨k, o, n, c⟩, l4)) := by
  unfold M.rA; rw [h]; rfl

set_option maxRecDepth 100000 in
set_option maxHeartbeats 4000000 in
theorem ract_any (b : Nat) (l : M.By) (w : World) (h : RdAt w b l) :
    Calls Tryz.prog 68 #[.pointer (some ⟨b, 0, none⟩)] w fun e w' => Reads b w w' (M.rA l) (isAct w.heap.size) e := by
  obtain ⟨R, hR⟩ : ∃ R, R = w.heap.size := ⟨_, rfl⟩
  obtain ⟨W, hW⟩ : ∃ W, W = w.alloc (.cells #[.int .i64 0, .string ⟨#[]⟩, .string ⟨#[]⟩, .slice none 0 0] 28) := ⟨_, rfl⟩
  have hb0 : But b w W := by rw [hW]; exact But.alloc _ _ _
  have q0 : W.heap[R]? = some (.cells #[.int .i64 0, .string ⟨#[]⟩, .string ⟨#[]⟩, .slice none 0 0] 28 (0, 0)) := by rw [hW, hR]; exact heap_alloc_new _ _
  have hlt := h.lt
  have hW0 : RdAt W b l := h.later (by rw [hW]; exact (Below.refl _ _).alloc (Nat.le_refl _) _)
  have hbR : b ≠ R := by omega
  have HBR : Aside (b ≠ R) := hbR
  have K : Hid (Calls Tryz.prog 109 #[.pointer (some ⟨b, 0, none⟩)] W fun e w' => Reads b W w' (M.rB l) isInt e) := byte_any b l W hW0
  have HQ : Hid (W.heap[R]? = some (.cells #[.int .i64 0, .string ⟨#[]⟩, .string ⟨#[]⟩, .slice none 0 0] 28 (0, 0))) := q0
  have HW : Hid (W = w.alloc (.cells #[.int .i64 0, .string ⟨#[]⟩, .string ⟨#[]⟩, .slice none 0 0] 28)) := hW
  have HR : Aside (R = w.heap.size) := hR
  clear h hW hR q0 hW0 hbR
  go_enter Tryz.func68, Tryz.ntmps68
  go_wp2_with fail
  rw [← HW.out, ← HR.out]
  refine K.out.mono ?_
  rintro e w1 ⟨hb1, ⟨k, l1, v, h1, rfl, rfl, hr⟩ | ⟨h1, rfl⟩⟩
  case inr =>
    have H1 : Hid (M.rB l = none) := h1
    clear h1 K
    unfold early
    go_wp2
    exact ⟨rfl, hb0.trans hb1, Or.inr ⟨M.rA_no1 H1.out, rfl⟩⟩
  have H1 : Hid (M.rA l = (match M.rT l1 with | none => none | some (o, l2) => match M.rT l2 with | none => none | some (n, l3) => match M.rL M.rC l3 with | none => none | some (c, l4) => some (⟨k, o, n, c⟩, l4))) := M.rA_at h1
  have K2 : Hid (Calls Tryz.prog 110 #[.pointer (some ⟨b, 0, none⟩)] w1 fun e w' => Reads b w1 w' (M.rT l1) isStr e) := text_any b l1 w1 hr
  have hc1 := hb0.trans hb1
  clear h1 hr K
  go_wp2_with fail
  refine K2.out.mono ?_
  rintro e w2 ⟨hb2, ⟨o, l2, v, h2, rfl, rfl, hr⟩ | ⟨h2, rfl⟩⟩
  case inr =>
    have H2 : Hid (M.rT l1 = none) := h2
    clear h2 K2
    unfold early
    go_wp2
    exact ⟨rfl, hc1.trans hb2, Or.inr ⟨by rw [H1.out, H2.out], rfl⟩⟩
  have H2 : Hid (M.rT l1 = some (o, l2)) := h2
  have K3 : Hid (Calls Tryz.prog 110 #[.pointer (some ⟨b, 0, none⟩)] w2 fun e w' => Reads b w2 w' (M.rT l2) isStr e) := text_any b l2 w2 hr
  have hc2 := hc1.trans hb2
  clear h2 hr K2
  go_wp2_with fail
  refine K3.out.mono ?_
  rintro e w3 ⟨hb3, ⟨n, l3, v, h3, rfl, rfl, hr⟩ | ⟨h3, rfl⟩⟩
  case inr =>
    have H3 : Hid (M.rT l2 = none) := h3
    clear h3 K3
    unfold early
    go_wp2
    exact ⟨rfl, hc2.trans hb3, Or.inr ⟨by rw [H1.out, H2.out]; simp only; rw [H3.out], rfl⟩⟩
  have H3 : Hid (M.rT l2 = some (n, l3)) := h3
  have K4 : Hid (Calls Tryz.prog 111 #[.pointer (some ⟨b, 0, none⟩), .func (.func 112) #[] #[]] w3 fun e w' => Reads b w3 w' (M.rL M.rC l3) (isChgs w3.heap.size) e) := lchange_any b l3 w3 hr
  have hc3 := hc2.trans hb3
  clear h3 hr K3
  go_wp2_with fail
  refine K4.out.mono ?_
  rintro e w4 ⟨hb4, ⟨c, l4, v, h4, rfl, oc, hr⟩ | ⟨h4, rfl⟩⟩
  case inr =>
    have H4 : Hid (M.rL M.rC l3 = none) := h4
    clear h4 K4
    unfold early
    go_wp2
    exact ⟨rfl, hc3.trans hb4, Or.inr ⟨by rw [H1.out, H2.out]; simp only; rw [H3.out]; simp only; rw [H4.out], rfl⟩⟩
  have H4 : Hid (M.rL M.rC l3 = some (c, l4)) := h4
  have hc4 := hc3.trans hb4
  obtain ⟨ca, cc, rfl, _⟩ := OwnC.rc oc
  obtain ⟨cn, hcn⟩ : ∃ cn, cn = c.length := ⟨_, rfl⟩
  have oc2 : OwnC w4 w3.heap.size (.slice ca cn cc) c := by rw [hcn]; exact oc
  rw [← hcn]
  have q4 : w4.heap[R]? = some (.cells #[.int .i64 0, .string ⟨#[]⟩, .string ⟨#[]⟩, .slice none 0 0] 28 (0, 0)) := ((((hb1.trans hb2).trans hb3).trans hb4).block R (Array.getElem?_eq_some_iff.1 HQ.out).1 (fun e => HBR.out (Option.some.inj e).symm)).trans HQ.out
  have y0 : w4.cell? ⟨R, 0, none⟩ = some (.int .i64 0) := by rw [cell_of_row _ _ _ _ _ _ q4]; rfl
  have y1 : w4.cell? ⟨R, 1, none⟩ = some (.string ⟨#[]⟩) := by rw [cell_of_row _ _ _ _ _ _ q4]; rfl
  have y2 : w4.cell? ⟨R, 2, none⟩ = some (.string ⟨#[]⟩) := by rw [cell_of_row _ _ _ _ _ _ q4]; rfl
  have y3 : w4.cell? ⟨R, 3, none⟩ = some (.slice none 0 0) := by rw [cell_of_row _ _ _ _ _ _ q4]; rfl
  have f0 : w4.frozen? ⟨R, 0, none⟩ = false := frozen_of_row _ _ _ _ _ q4
  have f1 : w4.frozen? ⟨R, 1, none⟩ = false := frozen_of_row _ _ _ _ _ q4
  have f2 : w4.frozen? ⟨R, 2, none⟩ = false := frozen_of_row _ _ _ _ _ q4
  have f3 : w4.frozen? ⟨R, 3, none⟩ = false := frozen_of_row _ _ _ _ _ q4
  obtain ⟨so, hso⟩ : ∃ so, so = M.str o := ⟨_, rfl⟩
  obtain ⟨sn, hsn⟩ : ∃ sn, sn = M.str n := ⟨_, rfl⟩
  rw [← hso, ← hsn]
  obtain ⟨X, hX⟩ : ∃ X, X = (((w4.setCell ⟨R, 0, none⟩ (.int .i64 k)).setCell ⟨R, 1, none⟩ (.string so)).setCell ⟨R, 2, none⟩ (.string sn)).setCell ⟨R, 3, none⟩ (.slice ca cn cc) := ⟨_, rfl⟩
  have qX : X.heap[R]? = some (.cells #[.int .i64 k, .string so, .string sn, .slice ca cn cc] 28 (0, 0)) := by
    rw [hX, heap_setCell_same _ _ _ _ _ _ (heap_setCell_same _ _ _ _ _ _ (heap_setCell_same _ _ _ _ _ _ (heap_setCell_same _ _ _ _ _ _ q4)))]; rfl
  have HX : Hid (X = (((w4.setCell ⟨R, 0, none⟩ (.int .i64 k)).setCell ⟨R, 1, none⟩ (.string so)).setCell ⟨R, 2, none⟩ (.string sn)).setCell ⟨R, 3, none⟩ (.slice ca cn cc)) := hX
  have HRX : Hid (RdAt X b l4) := by unfold Hid; rw [hX]; exact (((hr.other HBR.out _).other HBR.out _).other HBR.out _).other HBR.out _
  have HBX : Hid (But b w X) := by unfold Hid; rw [hX]; exact (((hc4.setNew (Nat.le_of_eq HR.out.symm) _).setNew (Nat.le_of_eq HR.out.symm) _).setNew (Nat.le_of_eq HR.out.symm) _).setNew (Nat.le_of_eq HR.out.symm) _
  have HAX : Hid (isAct w.heap.size ⟨k, o, n, c⟩ (.agg #[.int .i64 k, .string so, .string sn, .slice ca cn cc]) X) := by
    have g : ∀ (V : World) (i : Nat) (u : Value) (cur : Array Value), V.heap[R]? = some (.cells cur 28 (0, 0)) → OwnC V w3.heap.size (.slice ca cn cc) c → OwnC (V.setCell ⟨R, i, none⟩ u) w3.heap.size (.slice ca cn cc) c := fun V i u cur hV ho => ownsRow_elsewhere ho (grownBy_set V ⟨R, i, none⟩ u) fun r e cur' he => by
      cases e
      rw [show V.heap[R]? = _ from hV] at he
      simp at he
    refine ⟨ca, cn, cc, by rw [hso, hsn]; rfl, ?_⟩
    rw [hX]
    have e1 := heap_setCell_same w4 R 0 _ _ (.int .i64 k) q4
    have e2 := heap_setCell_same _ R 1 _ _ (.string so) e1
    have e3 := heap_setCell_same _ R 2 _ _ (.string sn) e2
    exact ownsRow_lower (g _ _ _ _ e3 (g _ _ _ _ e2 (g _ _ _ _ e1 (g _ _ _ _ q4 oc2)))) hc3.size
  have HX0 : Aside (X.cell? ⟨R, 0, none⟩ = some (.int .i64 k) ∧ X.cell? ⟨R, 1, none⟩ = some (.string so) ∧ X.cell? ⟨R, 2, none⟩ = some (.string sn) ∧ X.cell? ⟨R, 3, none⟩ = some (.slice ca cn cc)) := ⟨by rw [cell_of_row _ _ _ _ _ _ qX]; rfl, by rw [cell_of_row _ _ _ _ _ _ qX]; rfl, by rw [cell_of_row _ _ _ _ _ _ qX]; rfl, by rw [cell_of_row _ _ _ _ _ _ qX]; rfl⟩
  clear h4 hr K4 q4 qX hX oc oc2 hso hsn hcn
  go_wp2
  rw [← HX.out]
  obtain ⟨z0, z1, z2, z3⟩ := HX0.out
  refine bodyPost_ret (v := .agg #[.int .i64 k, .string so, .string sn, .slice ca cn cc]) (by simp [results, Tryz.results68, go_sem, z0, z1, z2, z3]) rfl ?_
  exact ⟨HBX.out, Or.inl ⟨⟨k, o, n, c⟩, l4, _, by rw [H1.out, H2.out]; simp only; rw [H3.out]; simp only; rw [H4.out], rfl, HAX.out, HRX.out⟩⟩

theorem run_assert (xt : TypeId) (w : World) : Sem.run Tryz.prog (Instr.typeAssert (.iface 29 (.int .i64 1)) xt 29 false) w = .ok (.int .i64 1) w := by
  simp [Instr.typeAssert, go_sem]
set_option maxRecDepth 100000 in
theorem catch_panicking (p : Addr) (x : Int) (older : List PanicEntry) (w : World) (hc : w.cell? p = some (.int .i64 x)) (hz : w.frozen? p = false) :
    CallsD Tryz.prog 108 #[.pointer (some p)] (.panicking ({ v := .iface 29 (.int .i64 1), recovered := false } :: older)) w fun e u' w' =>
      e = .returned (.tuple #[]) ∧ u' = .panicking ({ v := .iface 29 (.int .i64 1), recovered := true } :: older) ∧ w' = w.setCell p (.int .i64 1) := by
  refine callsD_of_wpS Tryz.func108 rfl fun c₀ cs hu => ?_
  apply wpS_seq
  apply wpS_region
  simp [wpOpsS, go_sem, recoverD, hu, Tryz.ntmps108, Exit.thenS]
  apply wpS_seq
  apply wpS_region
  simp [wpOpsS, go_sem, Exit.thenS]
  refine wpS_cond (t := true) (by simp [Act.eval]) ?_
  simp only [if_true]
  apply wpS_region
  simp [wpOpsS, go_sem, run_assert, hc, hz, bodyPostS, results, Tryz.results108]
set_option maxRecDepth 100000 in
theorem catch_idle (p : Addr) (w : World) :
    CallsD Tryz.prog 108 #[.pointer (some p)] .returning w fun e u' w' => e = .returned (.tuple #[]) ∧ u' = .returning ∧ w' = w := by
  refine callsD_of_wpS Tryz.func108 rfl fun c₀ cs hu => ?_
  apply wpS_seq
  apply wpS_region
  simp [wpOpsS, go_sem, recoverD, hu, Tryz.ntmps108, Exit.thenS]
  apply wpS_seq
  apply wpS_region
  simp [wpOpsS, go_sem, Exit.thenS]
  refine wpS_cond (t := false) (by simp [Act.eval]) ?_
  simp only [Bool.false_eq_true, if_false]
  refine wpS_of_wp (wp_skip ?_)
  cases c₀
  simp_all [bodyPostS, results, Tryz.results108]

set_option maxRecDepth 100000 in
set_option maxHeartbeats 4000000 in
theorem readA_any (l : M.By) (w : World) (hl : l.length ≤ 1000000) :
    Calls Tryz.prog 67 #[.string (M.str l), .func (.func 68) #[] #[]] w fun e w' => Below w.heap.size w w' ∧
      ((∃ x t v, M.rA l = some (x, t) ∧ e = .returned (.tuple #[v, .int .i64 ((l.length - t.length : Nat) : Int), .int .i64 0]) ∧ isAct w.heap.size x v w') ∨
       (M.rA l = none ∧ e = .returned (.tuple #[.agg #[.int .i64 0, .string ⟨#[]⟩, .string ⟨#[]⟩, .slice none 0 0], .int .i64 0, .int .i64 1]))) := by
  have hmf : ∀ (fn : Fn) (first cap : Array Value) (w : World), (Instr.makeFunc fn first cap).run Tryz.prog w = .ok (.func fn first cap) w := fun _ _ _ _ => rfl
  obtain ⟨s, hs⟩ : ∃ s, s = M.str l := ⟨_, rfl⟩
  obtain ⟨p, hp⟩ : ∃ p, p = w.heap.size := ⟨_, rfl⟩
  obtain ⟨W, hW⟩ : ∃ W, W = ((w.alloc (.cells #[.int .i64 0, .string ⟨#[]⟩, .string ⟨#[]⟩, .slice none 0 0] 28)).alloc (.cells #[.int .i64 0] 29)).alloc (.cells #[.string s] 147) := ⟨_, rfl⟩
  have hb : Below w.heap.size w W := by rw [hW]; exact (((Below.refl _ _).alloc (Nat.le_refl _) _).alloc (by simp) _).alloc (by simp; omega) _
  have hR0 : RdAt W (p + 1 + 1) l := ⟨by rw [hW, hp, ← hs, show w.heap.size + 1 + 1 = ((w.alloc (.cells #[.int .i64 0, .string ⟨#[]⟩, .string ⟨#[]⟩, .slice none 0 0] 28)).alloc (.cells #[.int .i64 0] 29)).heap.size by simp]; exact heap_alloc_new _ _, by omega⟩
  have K : Hid (Calls Tryz.prog 68 #[.pointer (some ⟨p + 1 + 1, 0, none⟩)] W fun e w' => Reads (p + 1 + 1) W w' (M.rA l) (isAct W.heap.size) e) := ract_any (p + 1 + 1) l W hR0
  have HW : Hid (W = ((w.alloc (.cells #[.int .i64 0, .string ⟨#[]⟩, .string ⟨#[]⟩, .slice none 0 0] 28)).alloc (.cells #[.int .i64 0] 29)).alloc (.cells #[.string s] 147)) := hW
  have HP : Aside (p = w.heap.size) := hp
  rw [← hs]
  have HS : Aside (s.size = l.length) := by unfold Aside; rw [hs, M.str_size]
  clear hW hp hR0 hs
  go_enter_defers Tryz.func67, Tryz.ntmps67
  go_wp2_with fail
  rw [← HW.out, ← HP.out]
  refine K.out.mono ?_
  rintro e w1 ⟨hb1, ⟨x, t, v, h1, rfl, ha, hr⟩ | ⟨h1, rfl⟩⟩
  · obtain ⟨ca, cn, cc, rfl, oc⟩ := ha
    unfold actV
    obtain ⟨kd, hkd⟩ : ∃ kd, kd = x.kind := ⟨_, rfl⟩
    obtain ⟨so, hso⟩ : ∃ so, so = M.str x.one := ⟨_, rfl⟩
    obtain ⟨st, hst⟩ : ∃ st, st = M.str x.two := ⟨_, rfl⟩
    obtain ⟨r, hrr⟩ : ∃ r, r = M.str t := ⟨_, rfl⟩
    rw [← hkd, ← hso, ← hst]
    have hsW : W.heap.size = p + 1 + 1 + 1 := by rw [HW.out, HP.out]; simp
    have q0 : W.heap[p]? = some (.cells #[.int .i64 0, .string ⟨#[]⟩, .string ⟨#[]⟩, .slice none 0 0] 28 (0, 0)) := by
      rw [HW.out, HP.out, Below.heap_alloc _ _ _ (by simp; omega), Below.heap_alloc _ _ _ (by simp)]; exact heap_alloc_new _ _
    have q1 : W.heap[p + 1]? = some (.cells #[.int .i64 0] 29 (0, 0)) := by
      rw [HW.out, HP.out, Below.heap_alloc _ _ _ (by simp), show w.heap.size + 1 = (w.alloc (.cells #[.int .i64 0, .string ⟨#[]⟩, .string ⟨#[]⟩, .slice none 0 0] 28)).heap.size by simp]; exact heap_alloc_new _ _
    have e0 : w1.heap[p]? = some (.cells #[.int .i64 0, .string ⟨#[]⟩, .string ⟨#[]⟩, .slice none 0 0] 28 (0, 0)) := (hb1.block p (by omega) (by simp; omega)).trans q0
    have e1 : w1.heap[p + 1]? = some (.cells #[.int .i64 0] 29 (0, 0)) := (hb1.block (p + 1) (by omega) (by simp)).trans q1
    have y0 : w1.cell? ⟨p, 0, none⟩ = some (.int .i64 0) := by rw [cell_of_row _ _ _ _ _ _ e0]; rfl
    have y1 : w1.cell? ⟨p, 1, none⟩ = some (.string ⟨#[]⟩) := by rw [cell_of_row _ _ _ _ _ _ e0]; rfl
    have y2 : w1.cell? ⟨p, 2, none⟩ = some (.string ⟨#[]⟩) := by rw [cell_of_row _ _ _ _ _ _ e0]; rfl
    have y3 : w1.cell? ⟨p, 3, none⟩ = some (.slice none 0 0) := by rw [cell_of_row _ _ _ _ _ _ e0]; rfl
    have f0 : w1.frozen? ⟨p, 0, none⟩ = false := frozen_of_row _ _ _ _ _ e0
    have f1 : w1.frozen? ⟨p, 1, none⟩ = false := frozen_of_row _ _ _ _ _ e0
    have f2 : w1.frozen? ⟨p, 2, none⟩ = false := frozen_of_row _ _ _ _ _ e0
    have f3 : w1.frozen? ⟨p, 3, none⟩ = false := frozen_of_row _ _ _ _ _ e0
    obtain ⟨X, hX⟩ : ∃ X, X = (((w1.setCell ⟨p, 0, none⟩ (.int .i64 kd)).setCell ⟨p, 1, none⟩ (.string so)).setCell ⟨p, 2, none⟩ (.string st)).setCell ⟨p, 3, none⟩ (.slice ca cn cc) := ⟨_, rfl⟩
    have qX : X.heap[p]? = some (.cells #[.int .i64 kd, .string so, .string st, .slice ca cn cc] 28 (0, 0)) := by
      rw [hX, heap_setCell_same _ _ _ _ _ _ (heap_setCell_same _ _ _ _ _ _ (heap_setCell_same _ _ _ _ _ _ (heap_setCell_same _ _ _ _ _ _ e0)))]; rfl
    have oth : ∀ k, k ≠ p → X.heap[k]? = w1.heap[k]? := fun k hk => by
      rw [hX, heap_setCell_other _ _ _ _ (by exact hk), heap_setCell_other _ _ _ _ (by exact hk), heap_setCell_other _ _ _ _ (by exact hk), heap_setCell_other _ _ _ _ (by exact hk)]
    have qX1 : X.heap[p + 1]? = some (.cells #[.int .i64 0] 29 (0, 0)) := (oth (p + 1) (by omega)).trans e1
    have rX : X.cell? ⟨p + 1 + 1, 0, none⟩ = some (.string r) := by rw [World.cell?_of_block (a := ⟨p + 1 + 1, 0, none⟩) (oth (p + 1 + 1) (by omega)), hr.cell, hrr]
    have HX : Hid (X = (((w1.setCell ⟨p, 0, none⟩ (.int .i64 kd)).setCell ⟨p, 1, none⟩ (.string so)).setCell ⟨p, 2, none⟩ (.string st)).setCell ⟨p, 3, none⟩ (.slice ca cn cc)) := hX
    have x0 : X.cell? ⟨p, 0, none⟩ = some (.int .i64 kd) := by rw [cell_of_row _ _ _ _ _ _ qX]; rfl
    have x1 : X.cell? ⟨p, 1, none⟩ = some (.string so) := by rw [cell_of_row _ _ _ _ _ _ qX]; rfl
    have x2 : X.cell? ⟨p, 2, none⟩ = some (.string st) := by rw [cell_of_row _ _ _ _ _ _ qX]; rfl
    have x3 : X.cell? ⟨p, 3, none⟩ = some (.slice ca cn cc) := by rw [cell_of_row _ _ _ _ _ _ qX]; rfl
    have g0 : X.frozen? ⟨p, 0, none⟩ = false := frozen_of_row _ _ _ _ _ qX
    have g1 : X.frozen? ⟨p, 1, none⟩ = false := frozen_of_row _ _ _ _ _ qX
    have g2 : X.frozen? ⟨p, 2, none⟩ = false := frozen_of_row _ _ _ _ _ qX
    have g3 : X.frozen? ⟨p, 3, none⟩ = false := frozen_of_row _ _ _ _ _ qX
    have x4 : X.cell? ⟨p + 1, 0, none⟩ = some (.int .i64 0) := by rw [cell_of_row _ _ _ _ _ _ qX1]; rfl
    have g4 : X.frozen? ⟨p + 1, 0, none⟩ = false := frozen_of_row _ _ _ _ _ qX1
    obtain ⟨L, hL⟩ : ∃ L, s.size = L := ⟨_, rfl⟩
    obtain ⟨M', hM'⟩ : ∃ M', r.size = M' := ⟨_, rfl⟩
    have hLl : L = l.length := by rw [← hL, HS.out]
    have hMt : M' = t.length := by rw [← hM', hrr, M.str_size]
    have htl : t.length ≤ l.length := by have := M.rA_less h1; omega
    have hwr : IntKind.i64.wrap ((L : Int) - (M' : Int)) = ((L - M' : Nat) : Int) := by rw [IntKind.wrap_i64]; omega
    have HLM : Hid (L - M' = l.length - t.length) := by unfold Hid; rw [hLl, hMt]
    have H1 : Hid (M.rA l = some (x, t)) := h1
    have HKd : Aside (kd = x.kind ∧ so = M.str x.one ∧ st = M.str x.two) := ⟨hkd, hso, hst⟩
    have HOC : Hid (OwnC w1 W.heap.size (.slice ca cn cc) x.chs) := oc
    have HE0 : Hid (w1.heap[p]? = some (.cells #[.int .i64 0, .string ⟨#[]⟩, .string ⟨#[]⟩, .slice none 0 0] 28 (0, 0))) := e0
    have HQX : Hid (X.heap[p]? = some (.cells #[.int .i64 kd, .string so, .string st, .slice ca cn cc] 28 (0, 0)) ∧ X.heap[p + 1]? = some (.cells #[.int .i64 0] 29 (0, 0))) := ⟨qX, qX1⟩
    clear hLl hMt htl h1 hX hr oth qX qX1 e0 e1 q0 q1 hsW hrr hkd hso hst oc
    go_wp2_with fail
    rw [← HX.out]
    go_region
    obtain ⟨Z, hZ⟩ : ∃ Z, Z = (((((X.setCell ⟨p, 0, none⟩ (.int .i64 kd)).setCell ⟨p, 1, none⟩ (.string so)).setCell ⟨p, 2, none⟩ (.string st)).setCell ⟨p, 3, none⟩ (.slice ca cn cc)).setCell ⟨p + 1, 0, none⟩ (.int .i64 0)).drew := ⟨_, rfl⟩
    have d1 := heap_setCell_same X p 0 _ _ (.int .i64 kd) HQX.out.1
    have d2 := heap_setCell_same _ p 1 _ _ (.string so) d1
    have d3 := heap_setCell_same _ p 2 _ _ (.string st) d2
    have d4 := heap_setCell_same _ p 3 _ _ (.slice ca cn cc) d3
    have zp : Z.heap[p]? = some (.cells #[.int .i64 kd, .string so, .string st, .slice ca cn cc] 28 (0, 0)) := by
      rw [hZ]
      show (World.setCell _ _ _).heap[p]? = _
      rw [heap_setCell_other _ _ _ _ (by show p ≠ p + 1; omega), d4]; rfl
    have c4 : ((((X.setCell ⟨p, 0, none⟩ (.int .i64 kd)).setCell ⟨p, 1, none⟩ (.string so)).setCell ⟨p, 2, none⟩ (.string st)).setCell ⟨p, 3, none⟩ (.slice ca cn cc)).heap[p + 1]? = some (.cells #[.int .i64 0] 29 (0, 0)) := by
      rw [heap_setCell_other _ _ _ _ (by show p + 1 ≠ p; omega), heap_setCell_other _ _ _ _ (by show p + 1 ≠ p; omega), heap_setCell_other _ _ _ _ (by show p + 1 ≠ p; omega), heap_setCell_other _ _ _ _ (by show p + 1 ≠ p; omega)]
      exact HQX.out.2
    have zp1 : Z.heap[p + 1]? = some (.cells #[.int .i64 0] 29 (0, 0)) := by
      rw [hZ]
      show (World.setCell _ _ _).heap[p + 1]? = _
      rw [heap_setCell_same _ _ _ _ _ _ c4]; rfl
    have oth : ∀ k, k ≠ p → k ≠ p + 1 → Z.heap[k]? = w1.heap[k]? := fun k hk hk1 => by
      rw [hZ]
      show (World.setCell _ _ _).heap[k]? = _
      rw [heap_setCell_other _ _ _ _ (by exact hk1), heap_setCell_other _ _ _ _ (by exact hk), heap_setCell_other _ _ _ _ (by exact hk), heap_setCell_other _ _ _ _ (by exact hk), heap_setCell_other _ _ _ _ (by exact hk), HX.out, heap_setCell_other _ _ _ _ (by exact hk), heap_setCell_other _ _ _ _ (by exact hk), heap_setCell_other _ _ _ _ (by exact hk), heap_setCell_other _ _ _ _ (by exact hk)]
    have hsW : W.heap.size = p + 1 + 1 + 1 := by rw [HW.out, HP.out]; simp
    have bw1 : Below w.heap.size w w1 := hb.trans (hb1.below (by omega) |>.mono (by have := HP.out; omega))
    have hpw : w.heap.size ≤ p := by have := HP.out; omega
    have bZ : Below w.heap.size w Z := by
      rw [hZ, HX.out]
      refine Below.drew ?_
      exact ((((((((bw1.setCell (p := ⟨p, 0, none⟩) hpw _).setCell (p := ⟨p, 1, none⟩) hpw _).setCell (p := ⟨p, 2, none⟩) hpw _).setCell (p := ⟨p, 3, none⟩) hpw _).setCell (p := ⟨p, 0, none⟩) hpw _).setCell (p := ⟨p, 1, none⟩) hpw _).setCell (p := ⟨p, 2, none⟩) hpw _).setCell (p := ⟨p, 3, none⟩) hpw _).setCell (p := ⟨p + 1, 0, none⟩) (by show _ ≤ p + 1; omega) _
    have HAZ : Hid (isAct w.heap.size x (.agg #[.int .i64 kd, .string so, .string st, .slice ca cn cc]) Z) := by
      refine ⟨ca, cn, cc, by rw [HKd.out.1, HKd.out.2.1, HKd.out.2.2]; rfl, ?_⟩
      refine ownsRow_lower (keep_row HOC.out fun k hk e => oth k ?_ ?_) hb.size
      · have := (World.ownsRow.lt HOC.out k e).1; omega
      · have := (World.ownsRow.lt HOC.out k e).1; omega
    have HBZ : Hid (Below w.heap.size w Z) := bZ
    have u0 : Z.cell? ⟨p, 0, none⟩ = some (.int .i64 kd) := by rw [cell_of_row _ _ _ _ _ _ zp]; rfl
    have u1 : Z.cell? ⟨p, 1, none⟩ = some (.string so) := by rw [cell_of_row _ _ _ _ _ _ zp]; rfl
    have u2 : Z.cell? ⟨p, 2, none⟩ = some (.string st) := by rw [cell_of_row _ _ _ _ _ _ zp]; rfl
    have u3 : Z.cell? ⟨p, 3, none⟩ = some (.slice ca cn cc) := by rw [cell_of_row _ _ _ _ _ _ zp]; rfl
    have u4 : Z.cell? ⟨p + 1, 0, none⟩ = some (.int .i64 0) := by rw [cell_of_row _ _ _ _ _ _ zp1]; rfl
    rw [← hZ]
    clear hZ d1 d2 d3 d4 zp c4 zp1 oth hsW bw1 hpw bZ x0 x1 x2 x3 x4 g0 g1 g2 g3 g4 y0 y1 y2 y3 f0 f1 f2 f3 rX
    go_wp2
    refine leaves_cons (f := 108) (args := #[.pointer (some ⟨p + 1, 0, none⟩)]) (by simp) (by simp [go_sem]) ?_
    refine (catch_idle ⟨p + 1, 0, none⟩ _).mono ?_
    rintro e u' w'' ⟨rfl, rfl, rfl⟩
    simp [Leaves, settle, results, Tryz.results67, go_sem, u0, u1, u2, u3, u4]
    exact ⟨HBZ.out, x, t, H1.out, _, ⟨rfl, by rw [HLM.out]⟩, HAZ.out⟩
  · have hsW : W.heap.size = p + 1 + 1 + 1 := by rw [HW.out, HP.out]; simp
    have q0 : W.heap[p]? = some (.cells #[.int .i64 0, .string ⟨#[]⟩, .string ⟨#[]⟩, .slice none 0 0] 28 (0, 0)) := by
      rw [HW.out, HP.out, Below.heap_alloc _ _ _ (by simp; omega), Below.heap_alloc _ _ _ (by simp)]; exact heap_alloc_new _ _
    have q1 : W.heap[p + 1]? = some (.cells #[.int .i64 0] 29 (0, 0)) := by
      rw [HW.out, HP.out, Below.heap_alloc _ _ _ (by simp), show w.heap.size + 1 = (w.alloc (.cells #[.int .i64 0, .string ⟨#[]⟩, .string ⟨#[]⟩, .slice none 0 0] 28)).heap.size by simp]; exact heap_alloc_new _ _
    have e0 : w1.heap[p]? = some (.cells #[.int .i64 0, .string ⟨#[]⟩, .string ⟨#[]⟩, .slice none 0 0] 28 (0, 0)) := (hb1.block p (by omega) (by simp; omega)).trans q0
    have e1 : w1.heap[p + 1]? = some (.cells #[.int .i64 0] 29 (0, 0)) := (hb1.block (p + 1) (by omega) (by simp)).trans q1
    have c1 : w1.cell? ⟨p + 1, 0, none⟩ = some (.int .i64 0) := by rw [cell_of_row _ _ _ _ _ _ e1]; rfl
    have z1 : w1.frozen? ⟨p + 1, 0, none⟩ = false := frozen_of_row _ _ _ _ _ e1
    obtain ⟨X, hX⟩ : ∃ X, X = w1.setCell ⟨p + 1, 0, none⟩ (.int .i64 1) := ⟨_, rfl⟩
    have qX : X.heap[p]? = some (.cells #[.int .i64 0, .string ⟨#[]⟩, .string ⟨#[]⟩, .slice none 0 0] 28 (0, 0)) := by rw [hX, heap_setCell_other _ _ _ _ (by show p ≠ p + 1; omega)]; exact e0
    have qX1 : X.heap[p + 1]? = some (.cells #[.int .i64 1] 29 (0, 0)) := by rw [hX, heap_setCell_same _ _ _ _ _ _ e1]; rfl
    have x0 : X.cell? ⟨p, 0, none⟩ = some (.int .i64 0) := by rw [cell_of_row _ _ _ _ _ _ qX]; rfl
    have x1 : X.cell? ⟨p, 1, none⟩ = some (.string ⟨#[]⟩) := by rw [cell_of_row _ _ _ _ _ _ qX]; rfl
    have x2 : X.cell? ⟨p, 2, none⟩ = some (.string ⟨#[]⟩) := by rw [cell_of_row _ _ _ _ _ _ qX]; rfl
    have x3 : X.cell? ⟨p, 3, none⟩ = some (.slice none 0 0) := by rw [cell_of_row _ _ _ _ _ _ qX]; rfl
    have x4 : X.cell? ⟨p + 1, 0, none⟩ = some (.int .i64 1) := by rw [cell_of_row _ _ _ _ _ _ qX1]; rfl
    have bX : Below w.heap.size w X := by
      rw [hX]
      exact (hb.trans (hb1.below (by omega) |>.mono (by have := HP.out; omega))).setCell (p := ⟨p + 1, 0, none⟩) (by show _ ≤ p + 1; have := HP.out; omega) _
    have HBX : Hid (Below w.heap.size w X) := bX
    have HX : Hid (X = w1.setCell ⟨p + 1, 0, none⟩ (.int .i64 1)) := hX
    have H1 : Hid (M.rA l = none) := h1
    have HCc : Hid (w1.cell? ⟨p + 1, 0, none⟩ = some (.int .i64 0) ∧ w1.frozen? ⟨p + 1, 0, none⟩ = false) := ⟨c1, z1⟩
    clear h1 e0 e1 q0 q1 hsW qX qX1 hX c1 z1 bX
    unfold early
    go_wp2
    refine leaves_cons (f := 108) (args := #[.pointer (some ⟨p + 1, 0, none⟩)]) (by simp) (by simp [go_sem]) ?_
    refine (catch_panicking ⟨p + 1, 0, none⟩ 0 [] _ HCc.out.1 HCc.out.2).mono ?_
    rintro e u' w'' ⟨rfl, rfl, rfl⟩
    rw [← HX.out]
    simp [Leaves, settle, results, Tryz.results67, go_sem, x0, x1, x2, x3, x4]
    exact ⟨HBX.out, H1.out⟩
end Go.Proofs.YtcgpgflnihjpiafGreat

/- Acts in memory; log.Replay. -/
namespace Go.Proofs.YtcgpgflnihjpiafGreat
open Go.RowKit

def act0 : M.Act := ⟨0, [], [], []⟩
def encAct : List M.Act → List Value → List Value
  | x :: xs, v :: vs => .int .i64 x.kind :: .string (M.str x.one) :: .string (M.str x.two) :: v :: encAct xs vs
  | _, _ => []
theorem encAct_length : ∀ (xs : List M.Act) (vs : List Value), vs.length = xs.length → (encAct xs vs).length = xs.length * 4
  | [], [], _ => rfl
  | [], _ :: _, h => by simp at h
  | _ :: _, [], h => by simp at h
  | x :: xs, v :: vs, h => by
    have := encAct_length xs vs (by simpa using h)
    simp [encAct, this]; omega
theorem encAct_append : ∀ (xs ys : List M.Act) (vs us : List Value), vs.length = xs.length → encAct (xs ++ ys) (vs ++ us) = encAct xs vs ++ encAct ys us
  | [], _, [], _, _ => rfl
  | [], _, _ :: _, _, h => by simp at h
  | _ :: _, _, [], _, h => by simp at h
  | x :: xs, ys, v :: vs, us, h => by
    have := encAct_append xs ys vs us (by simpa using h)
    simp [encAct, this]
theorem encAct_at : ∀ (xs : List M.Act) (vs : List Value), vs.length = xs.length → ∀ i, i < xs.length →
    (encAct xs vs)[i * 4]? = some (.int .i64 (xs.getD i act0).kind) ∧ (encAct xs vs)[i * 4 + 1]? = some (.string (M.str (xs.getD i act0).one)) ∧ (encAct xs vs)[i * 4 + 2]? = some (.string (M.str (xs.getD i act0).two)) ∧ (encAct xs vs)[i * 4 + 3]? = some (vs.getD i (.slice none 0 0))
  | [], _, _, i, hi => by simp at hi
  | _ :: _, [], h, _, _ => by simp at h
  | x :: xs, v :: vs, h, i, hi => by
    cases i with
    | zero => simp [encAct]
    | succ i =>
      have := encAct_at xs vs (by simpa using h) i (by simpa using hi)
      rw [show (i + 1) * 4 = i * 4 + 1 + 1 + 1 + 1 by omega]
      simpa [encAct] using this
/-- Acts in a row of the call's own, and all that they hold. -/
def OwnA (w : World) (base : Nat) (v : Value) (xs : List M.Act) : Prop :=
  ∃ vs : List Value, vs.length = xs.length ∧ w.ownsRow base 28 4 v xs.length (encAct xs vs) ∧ ∀ i, i < xs.length → OwnC w base (vs.getD i (.slice none 0 0)) (xs.getD i act0).chs
theorem OwnA.nil (w : World) (base : Nat) : OwnA w base (.slice none 0 0) [] := ⟨[], rfl, World.ownsRow_nil _ _ _ _, fun i hi => by simp at hi⟩
theorem OwnA.later {w w' : World} {base : Nat} {v : Value} {xs : List M.Act} (h : OwnA w base v xs) (hb : Below w.heap.size w w') : OwnA w' base v xs := by
  obtain ⟨vs, h1, h2, h3⟩ := h
  exact ⟨vs, h1, ownsRow_later h2 hb, fun i hi => ownsRow_later (h3 i hi) hb⟩
theorem OwnA.lower {w : World} {base base' : Nat} {v : Value} {xs : List M.Act} (h : OwnA w base v xs) (hb : base' ≤ base) : OwnA w base' v xs := by
  obtain ⟨vs, h1, h2, h3⟩ := h
  exact ⟨vs, h1, ownsRow_lower h2 hb, fun i hi => ownsRow_lower (h3 i hi) hb⟩
/-- Acts that may be read. -/
def Ac (w : World) (a : Option Addr) (n : Nat) (xs : List M.Act) : Prop :=
  xs.length = n ∧ (n = 0 ∨ ∃ b off, a = some ⟨b, off, none⟩ ∧ b < w.heap.size ∧ ∀ i, i < n → ∃ ca cn cc, w.cell? ⟨b, off + i * 4, none⟩ = some (.int .i64 (xs.getD i act0).kind) ∧ w.cell? ⟨b, off + i * 4 + 1, none⟩ = some (.string (M.str (xs.getD i act0).one)) ∧ w.cell? ⟨b, off + i * 4 + 2, none⟩ = some (.string (M.str (xs.getD i act0).two)) ∧ w.cell? ⟨b, off + i * 4 + 3, none⟩ = some (.slice ca cn cc) ∧ Rc w ca cn (xs.getD i act0).chs ∧ cn ≤ 9223372036854775807)
theorem Ac.below {w w' : World} {a : Option Addr} {n : Nat} {xs : List M.Act} (h : Ac w a n xs) (hb : Below w.heap.size w w') : Ac w' a n xs := by
  obtain ⟨h1, h2⟩ := h
  refine ⟨h1, ?_⟩
  rcases h2 with h2 | ⟨b, off, ha, hlt, hc⟩
  · exact Or.inl h2
  · refine Or.inr ⟨b, off, ha, Nat.lt_of_lt_of_le hlt hb.size, fun i hi => ?_⟩
    obtain ⟨ca, cn, cc, k0, k1, k2, k3, k4, k5⟩ := hc i hi
    exact ⟨ca, cn, cc, (hb.cell (p := ⟨b, off + i * 4, none⟩) hlt).trans k0, (hb.cell (p := ⟨b, off + i * 4 + 1, none⟩) hlt).trans k1, (hb.cell (p := ⟨b, off + i * 4 + 2, none⟩) hlt).trans k2, (hb.cell (p := ⟨b, off + i * 4 + 3, none⟩) hlt).trans k3, k4.below hb (Nat.le_refl _), k5⟩
theorem OwnA.ac {w : World} {base : Nat} {v : Value} {xs : List M.Act} (h : OwnA w base v xs) : ∃ a cap, v = .slice a xs.length cap ∧ Ac w a xs.length xs ∧ xs.length ≤ cap ∧ cap ≤ maxLen := by
  obtain ⟨vs, hl, h0, hv⟩ := h
  obtain ⟨h1, h2⟩ := h0
  rcases h2 with ⟨rfl, hn⟩ | ⟨g, cap, cur, rfl, hb, hh, hc, hm, hz, hx⟩
  · exact ⟨none, 0, by rw [hn], ⟨rfl, Or.inl hn⟩, by omega, by simp [maxLen]⟩
  · have h0 : w.ownsRow base 28 4 (.slice (some ⟨g, 0, none⟩) xs.length cap) xs.length (encAct xs vs) := ⟨h1, Or.inr ⟨g, cap, cur, rfl, hb, hh, hc, hm, hz, hx⟩⟩
    have hlt : g < w.heap.size := (Array.getElem?_eq_some_iff.1 hh).1
    refine ⟨_, cap, rfl, ⟨rfl, Or.inr ⟨g, 0, rfl, hlt, fun i hi => ?_⟩⟩, hc, hm⟩
    obtain ⟨ca, cc, e, r, l1, l2⟩ := OwnC.rc (hv i hi)
    obtain ⟨e0, e1, e2, e3⟩ := encAct_at xs vs hl i hi
    refine ⟨ca, _, cc, ?_, ?_, ?_, ?_, r, by unfold maxLen at l2; omega⟩
    · rw [World.ownsRow.cellAt h0 (0 + i * 4) (by omega), Nat.zero_add, e0]
    · rw [World.ownsRow.cellAt h0 (0 + i * 4 + 1) (by omega), Nat.zero_add, e1]
    · rw [World.ownsRow.cellAt h0 (0 + i * 4 + 2) (by omega), Nat.zero_add, e2]
    · rw [World.ownsRow.cellAt h0 (0 + i * 4 + 3) (by omega), Nat.zero_add, e3, e]
/-- One act more. -/
theorem OwnA.append {w w1 : World} {base : Nat} {v v' u : Value} {xs : List M.Act} {x : M.Act} {vs : List Value} (hl : vs.length = xs.length) (h1 : w.ownsRow base 28 4 v xs.length (encAct xs vs)) (h2 : ∀ i, i < xs.length → OwnC w base (vs.getD i (.slice none 0 0)) (xs.getD i act0).chs)
    (hp : OwnC w base u x.chs) (h3 : w1.ownsRow base 28 4 v' (xs.length + 1) (encAct xs vs ++ [.int .i64 x.kind, .string (M.str x.one), .string (M.str x.two), u])) (hg : w.grownBy w1 v.ownBlock) : OwnA w1 base v' (xs ++ [x]) := by
  have no : ∀ r, v.ownBlock = some r → ∀ cur, w.heap[r]? ≠ some (.cells cur 69 (0, 0)) := by
    intro r hr cur hc
    rcases h1.2 with ⟨rfl, _⟩ | ⟨g, cap, cur', rfl, _, hgb, _⟩
    · simp [Value.ownBlock] at hr
    · obtain rfl : g = r := by simpa [Value.ownBlock] using hr
      rw [hgb] at hc
      simp at hc
  have keep : ∀ q d, OwnC w base q d → OwnC w1 base q d := fun q d h => ownsRow_elsewhere h hg no
  refine ⟨vs ++ [u], by simp [hl], ?_, fun i hi => ?_⟩
  · rw [encAct_append xs [x] vs [u] hl, List.length_append]
    exact h3
  · by_cases hlt : i < xs.length
    · have e1 : (vs ++ [u]).getD i (.slice none 0 0) = vs.getD i (.slice none 0 0) := by simp [List.getD, List.getElem?_append_left (show i < vs.length by omega)]
      have e2 : (xs ++ [x]).getD i act0 = xs.getD i act0 := by simp [List.getD, List.getElem?_append_left hlt]
      rw [e1, e2]
      exact keep _ _ (h2 i hlt)
    · obtain rfl : i = xs.length := by simp at hi; omega
      have e1 : (vs ++ [u]).getD xs.length (.slice none 0 0) = u := by rw [← hl]; simp [List.getD]
      have e2 : (xs ++ [x]).getD xs.length act0 = x := by simp [List.getD]
      rw [e1, e2]
      exact keep _ _ hp
theorem infoAct : (Tryz.prog.info? 28).map (fun i => (i.zero, i.size, i.bytes)) = some (some (.agg #[.int .i64 0, .string ⟨#[]⟩, .string ⟨#[]⟩, .slice none 0 0]), 4, 64) := by kernel_rfl
theorem cell_four_new (w : World) (x y z u : Value) (t : TypeId) : ∀ j v, [x, y, z, u][j]? = some v → (w.alloc (.cells #[x, y, z, u] t)).cell? ((⟨w.heap.size, 0, none⟩ : Addr).add j) = some v := by
  intro j v hj
  match j, hj with
  | 0, hj => simp at hj; subst hj; simp [go_sem, Addr.add]
  | 1, hj => simp at hj; subst hj; simp [go_sem, Addr.add]
  | 2, hj => simp at hj; subst hj; simp [go_sem, Addr.add]
  | 3, hj => simp at hj; subst hj; simp [go_sem, Addr.add]

theorem M.rAs_more {n : Nat} {l t : M.By} {x : M.Act} (h : M.rA l = some (x, t)) : M.rAs (n + 1) l = (x :: (M.rAs n t).1, (M.rAs n t).2) := by
  rw [M.rAs, h]

theorem M.rA_drop {l t : M.By} {x : M.Act} (h : M.rA l = some (x, t)) : t = l.drop (l.length - t.length) := by
  have e := (M.rA_inv h).1
  have hl : l.length - t.length = (M.pA x).length := by rw [e]; simp
  rw [hl]
  conv => rhs; rw [e]
  rw [List.drop_left]

set_option maxRecDepth 100000 in
set_option maxHeartbeats 4000000 in
theorem replay_any (l : M.By) (w : World) (hl : l.length ≤ 9223372036854775807) :
    Calls Tryz.prog 23 #[.string (M.str l)] w fun e w' => Below w.heap.size w w' ∧
      ((4096 < l.length ∧ e = .returned (.tuple #[.slice none 0 0, .int .i64 0, .int .i64 2])) ∨
       (l.length ≤ 4096 ∧ ∃ v, e = .returned (.tuple #[v, .int .i64 ((l.length - (M.rAs 60 l).2.length : Nat) : Int), .int .i64 0]) ∧ OwnA w' w.heap.size v (M.rAs 60 l).1)) := by
  obtain ⟨s, hs⟩ : ∃ s, s = M.str l := ⟨_, rfl⟩
  have hsz : s.size = l.length := by rw [hs, M.str_size]
  obtain ⟨L, hL⟩ : ∃ L, L = l.length := ⟨_, rfl⟩
  rw [← hL] at hsz hl
  rw [← hs]
  obtain ⟨i1, hi1, hy0, hy1, hy2⟩ := info_parts infoAct
  by_cases h : 4096 < L
  · have hb : decide ((4096 : Int) < (L : Int)) = true := by simp; omega
    have HL : Hid (4096 < l.length) := by unfold Hid; omega
    clear hL hs h
    go_enter Tryz.func23, Tryz.ntmps23
    go_wp2
    go_ret3
    exact ⟨Below.refl _ _, Or.inl ⟨HL.out, rfl⟩⟩
  · have hb : decide ((4096 : Int) < (L : Int)) = false := by simp; omega
    have HL : Hid (l.length ≤ 4096) := by unfold Hid; omega
    have HS : Hid (s = M.str l) := hs
    have HLl : Aside (L = l.length) := hL
    clear hL hs h
    go_enter Tryz.func23, Tryz.ntmps23
    go_wp2_with fail
    go_loopg [5, 6] 60 (fun g v i wr => ∃ (k by' : Nat) (xs : List M.Act) (t : M.By), k + g = 60 ∧ i = .int .i64 by' ∧ Aside (t = l.drop by') ∧ Aside (by' ≤ L) ∧ Aside (M.rAs 60 l = (xs ++ (M.rAs g t).1, (M.rAs g t).2)) ∧ Aside (xs.length = k) ∧ Aside (OwnA wr w.heap.size v xs) ∧ Below w.heap.size w wr)
    case atStart => exact ⟨0, 0, [], l, by omega, rfl, rfl, by unfold Aside; omega, rfl, rfl, OwnA.nil _ _, Below.refl _ _⟩
    case round =>
      obtain ⟨k, by', xs, t, hkg, rfl, HT, HBy, HAs, HLx, HO, hbw⟩ := hrel
      obtain ⟨va, vc, hv, _⟩ := HO.out.ac
      rw [HLx.out] at hv
      subst hv
      have htl : t.length = L - by' := by rw [HT.out, List.length_drop, HLl.out]
      have HTl : Hid (t.length = L - by') := htl
      by_cases hk : k < 60
      · obtain ⟨gq, rfl⟩ : ∃ gq, gk = gq + 1 := ⟨gk - 1, by omega⟩
        have hki : (k : Int) < 60 := by omega
        have e1 : s.extract by' L = M.str t := by rw [HS.out, M.str_drop l by' L HLl.out, HT.out]
        have h2 : (by' : Int) ≤ (L : Int) := by have := HBy.out; omega
        have h3 : 0 ≤ (by' : Int) := by omega
        have K : Hid (Calls Tryz.prog 67 #[.string (M.str t), .func (.func 68) #[] #[]] wr fun e w' => Below wr.heap.size wr w' ∧
          ((∃ x t' v, M.rA t = some (x, t') ∧ e = .returned (.tuple #[v, .int .i64 ((t.length - t'.length : Nat) : Int), .int .i64 0]) ∧ isAct wr.heap.size x v w') ∨
           (M.rA t = none ∧ e = .returned (.tuple #[.agg #[.int .i64 0, .string ⟨#[]⟩, .string ⟨#[]⟩, .slice none 0 0], .int .i64 0, .int .i64 1])))) := readA_any t wr (by have h5 := HL.out; have h6 := HLl.out; rw [HTl.out]; omega)
        clear htl
        go_wp2_with fail
        refine K.out.mono ?_
        rintro e w1 ⟨b1, ⟨x, t2, v, h1, rfl, ca, cn, cc, rfl, oc⟩ | ⟨h1, rfl⟩⟩
        · have hb1 := hbw.trans (b1.mono hbw.size)
          obtain ⟨j, hj⟩ : ∃ j, j = t.length - t2.length := ⟨_, rfl⟩
          have hless := M.rA_less h1
          have hj2 : by' + j ≤ L := by have := HTl.out; have := HBy.out; omega
          have HT2 : Aside (t2 = l.drop (by' + j)) := by
            unfold Aside
            have := M.rA_drop h1
            rw [← hj] at this
            rw [this, HT.out, List.drop_drop]
          have HAs2 : Aside (M.rAs 60 l = ((xs ++ [x]) ++ (M.rAs gq t2).1, (M.rAs gq t2).2)) := by
            unfold Aside
            rw [HAs.out, M.rAs_more h1]
            simp
          have HLx2 : Aside ((xs ++ [x]).length = k + 1) := by unfold Aside; rw [List.length_append, HLx.out]; rfl
          have hwj : IntKind.i64.wrap ((by' : Int) + (j : Int)) = ((by' + j : Nat) : Int) := by rw [IntKind.wrap_i64]; have := HL.out; have := HLl.out; omega
          unfold actV
          obtain ⟨kd, hkd⟩ : ∃ kd, kd = x.kind := ⟨_, rfl⟩
          obtain ⟨so, hso⟩ : ∃ so, so = M.str x.one := ⟨_, rfl⟩
          obtain ⟨st, hst⟩ : ∃ st, st = M.str x.two := ⟨_, rfl⟩
          rw [← hj, ← hkd, ← hso, ← hst]
          obtain ⟨W2, hW2⟩ : ∃ W2, W2 = w1.alloc (.cells #[.int .i64 kd, .string so, .string st, .slice ca cn cc] 28) := ⟨_, rfl⟩
          obtain ⟨vs, hvl, hrow, hel⟩ := HO.out
          have b2 : Below w1.heap.size w1 W2 := by rw [hW2]; exact (Below.refl _ _).alloc (Nat.le_refl _) _
          have q2 : Below wr.heap.size wr W2 := b1.trans (b2.mono b1.size)
          rw [HLx.out] at hrow
          have HRA : Hid ((W2.alloc (.cells #[.int .i64 kd, .string so, .string st, .slice ca cn cc] 28)).ownsRow w.heap.size 28 4 (.slice va k vc) k (encAct xs vs)) := (ownsRow_later hrow q2).alloc _
          have HCN : Hid (∀ jj u, [Value.int .i64 kd, .string so, .string st, .slice ca cn cc][jj]? = some u → (W2.alloc (.cells #[.int .i64 kd, .string so, .string st, .slice ca cn cc] 28)).cell? ((⟨w1.heap.size + 1, 0, none⟩ : Addr).add jj) = some u) := by
            unfold Hid
            rw [show w1.heap.size + 1 = W2.heap.size by rw [hW2]; simp]
            exact cell_four_new _ _ _ _ _ _
          have HPut : Hid (∀ v' w', w'.ownsRow w.heap.size 28 4 v' (k + 1) (encAct xs vs ++ [.int .i64 kd, .string so, .string st, .slice ca cn cc]) → (W2.alloc (.cells #[.int .i64 kd, .string so, .string st, .slice ca cn cc] 28)).grownBy w' (Value.slice va k vc).ownBlock → OwnA w' w.heap.size v' (xs ++ [x])) := fun v' w' h3 hg => by
            have hba : Below W2.heap.size W2 (W2.alloc (.cells #[.int .i64 kd, .string so, .string st, .slice ca cn cc] 28)) := (Below.refl _ _).alloc (Nat.le_refl _) _
            refine OwnA.append (u := .slice ca cn cc) hvl (by rw [HLx.out]; exact HRA.out) (fun i hi => ownsRow_later (ownsRow_later (hel i hi) q2) hba) (ownsRow_later (ownsRow_later (ownsRow_lower oc hbw.size) b2) hba) ?_ hg
            rw [HLx.out, ← hkd, ← hso, ← hst]; exact h3
          have HB2 : Hid (Below w.heap.size w (W2.alloc (.cells #[.int .i64 kd, .string so, .string st, .slice ca cn cc] 28))) := ((hb1.trans (b2.mono hb1.size))).alloc (hb1.trans (b2.mono hb1.size)).size _
          have HOw : Hid (∀ kk, (Value.slice va k vc).ownBlock = some kk → w.heap.size ≤ kk) := fun kk e => (World.ownsRow.lt hrow kk e).1
          have HW2 : Hid (W2 = w1.alloc (.cells #[.int .i64 kd, .string so, .string st, .slice ca cn cc] 28)) := hW2
          clear h1 oc hless hkd hso hst hj hW2 hvl hrow hel b2 q2 K b1
          go_wp2_with (at_builtin; refine wpList_append_own _ rfl _ _ 56 rfl w.heap.size 28 i1 (.agg #[.int .i64 0, .string ⟨#[]⟩, .string ⟨#[]⟩, .slice none 0 0]) 4 64 Tryz.underlying56 hi1 hy0 hy1 hy2 rfl (by decide) _ k (encAct xs vs) rfl (by rw [← HW2.out]; exact HRA.out) ⟨w1.heap.size + 1, 0, none⟩ 1 1 [.int .i64 kd, .string so, .string st, .slice ca cn cc] rfl rfl (by rw [← HW2.out]; exact HCN.out) (by simp [Value.oneCell']) (by simp only [maxLen]; omega) (by omega) (by rw [← HW2.out]; exact HB2.out.size) ?_)
          rw [← HW2.out]
          intro v3 w3 h6 h7 _
          have HO3 : Aside (OwnA w3 w.heap.size v3 (xs ++ [x])) := HPut.out v3 w3 h6 h7
          have b3 : Below w.heap.size w w3 := HB2.out.grown h7 HB2.out.size HOw.out
          clear h6 h7 HPut HRA HCN HOw
          go_wp2
          go_roundg gq
          case measure => omega
          case rel => exact ⟨k + 1, by' + j, _, t2, by omega, by go_num, HT2, hj2, HAs2, HLx2, HO3, b3⟩
        · have hb1 := hbw.trans (b1.mono hbw.size)
          obtain ⟨W2, hW2⟩ : ∃ W2, W2 = w1.alloc (.cells #[.int .i64 0, .string ⟨#[]⟩, .string ⟨#[]⟩, .slice none 0 0] 28) := ⟨_, rfl⟩
          have b2 : Below w1.heap.size w1 W2 := by rw [hW2]; exact (Below.refl _ _).alloc (Nat.le_refl _) _
          have HW2 : Hid (W2 = w1.alloc (.cells #[.int .i64 0, .string ⟨#[]⟩, .string ⟨#[]⟩, .slice none 0 0] 28)) := hW2
          have HAe : Hid (M.rAs 60 l = (xs, t)) := by unfold Hid; rw [HAs.out, M.rAs_none _ _ h1]; simp
          have HO2 : Hid (OwnA W2 w.heap.size (.slice va k vc) xs) := HO.out.later (b1.trans (b2.mono b1.size))
          have HB2 : Hid (Below w.heap.size w W2) := hb1.trans (b2.mono hb1.size)
          clear hW2 b2 b1 h1 K
          go_wp2
          rw [← HW2.out]
          go_ret3
          refine ⟨HB2.out, Or.inr ⟨HL.out, .slice va k vc, ?_, ?_⟩⟩
          · rw [HAe.out, show l.length - t.length = by' by have := HTl.out; have := HBy.out; have := HLl.out; omega]; rfl
          · rw [HAe.out]; exact HO2.out
      · obtain rfl : k = 60 := by omega
        obtain rfl : gk = 0 := by omega
        have HAe : Hid (M.rAs 60 l = (xs, t)) := by unfold Hid; rw [HAs.out]; simp [M.rAs]
        go_wp2
        go_ret3
        refine ⟨hbw, Or.inr ⟨HL.out, .slice va 60 vc, ?_, ?_⟩⟩
        · rw [HAe.out, show l.length - t.length = by' by have := HTl.out; have := HBy.out; have := HLl.out; omega]; rfl
        · rw [HAe.out]; exact HO.out
end Go.Proofs.YtcgpgflnihjpiafGreat

/- Heads and numbers in memory, as cells. -/
namespace Go.Proofs.YtcgpgflnihjpiafGreat
open Go.RowKit

theorem infoHead : (Tryz.prog.info? 71).map (fun i => (i.zero, i.size, i.bytes)) = some (some (.agg #[.string ⟨#[]⟩, .int .i64 0]), 2, 24) := by kernel_rfl
theorem infoCommit : (Tryz.prog.info? 51).map (fun i => (i.zero, i.size, i.bytes)) = some (some (.agg #[.slice none 0 0, .slice none 0 0]), 2, 48) := by kernel_rfl

theorem Hs.enc {w : World} {ad : Addr} {n : Nat} {H : List M.Hd} (h : Hs w (some ad) n H) : ∀ j u, (encH H)[j]? = some u → w.cell? (ad.add j) = some u := by
  intro j u hj
  have hjl : j < (encH H).length := (List.getElem?_eq_some_iff.1 hj).1
  rw [encH_length] at hjl
  rcases h.cases with ⟨_, rfl⟩ | ⟨b, off, ea, _, hl, _, hc⟩
  · simp at hjl
  · obtain rfl : ad = ⟨b, off, none⟩ := by simpa using ea
    rcases Nat.mod_two_eq_zero_or_one j with h0 | h1
    · obtain ⟨i, rfl⟩ : ∃ i, j = i * 2 := ⟨j / 2, by omega⟩
      rw [encH_name H i (by omega)] at hj
      rw [← hj, Addr.add_lit]; exact (hc i (by omega)).1
    · obtain ⟨i, rfl⟩ : ∃ i, j = i * 2 + 1 := ⟨j / 2, by omega⟩
      rw [encH_at H i (by omega)] at hj
      rw [← hj, Addr.add_lit, ← Nat.add_assoc]
      exact (hc i (by omega)).2.1
theorem Ri.enc {w : World} {ad : Addr} {n : Nat} {l : List Int} (h : Ri w (some ad) n l) : ∀ j u, (l.map (Value.int .i64))[j]? = some u → w.cell? (ad.add j) = some u := by
  intro j u hj
  have hjl : j < l.length := by have := (List.getElem?_eq_some_iff.1 hj).1; simpa using this
  rcases h.cases with ⟨_, rfl⟩ | ⟨b, off, ea, _, hl, _, hc⟩
  · simp at hjl
  · obtain rfl : ad = ⟨b, off, none⟩ := by simpa using ea
    rw [Addr.add_lit, hc j (by omega), ← hj]
    simp [List.getD, hjl]
end Go.Proofs.YtcgpgflnihjpiafGreat

/- Regions that draw their order and whose last operation writes what the others read: a condition on the world that is kept till that operation. -/
namespace Go.Proofs.YtcgpgflnihjpiafGreat
open Go.RowKit

section
variable {P : Program} {ops : Array Oper} {Q : Exit → Act → World → Prop} {md : Region.Mode} {S : World → Prop} {L : Nat}

/-- Whatever order is picked from here on, and S holds behind every operation but number L. -/
def Till (P : Program) (md : Region.Mode) (ops : Array Oper) (Q : Exit → Act → World → Prop) (S : World → Prop) (L : Nat) : Nat → Array Bool → Act → World → Prop
  | 0, listed, a, w => Region.ready md ops listed = [] ∧ Q .normal a w
  | fuel + 1, listed, a, w =>
    (Region.ready md ops listed = [] → Q .normal a w) ∧
    ∀ i ∈ Region.ready md ops listed, wpOp P ops Q i (fun a' w' => (i ≠ L → listed.getD L true = false → S w') ∧ Till P md ops Q S L fuel (listed.setIfInBounds i true) a' w') a w
theorem wpAny_of_till : ∀ (fuel : Nat) (listed : Array Bool) (a : Act) (w : World), Till P md ops Q S L fuel listed a w → wpAny P md ops Q fuel listed a w
  | 0, _, _, _, h => h
  | fuel + 1, _, _, _, h => ⟨h.1, fun i hi => wpOp_mono (fun a' w' h' => wpAny_of_till fuel _ a' w' h'.2) (h.2 i hi)⟩

/-- Does operation L wait for operation i? -/
def waits (md : Region.Mode) (ops : Array Oper) (L i : Nat) : Bool := match ops[L]? with
  | none => false
  | some o => o.after.any fun e => Region.binds md e && e.on == i

/-- .. or for one that waits for it, and so on. -/
def waitsT (md : Region.Mode) (ops : Array Oper) : Nat → Nat → Nat → Bool
  | 0, L, i => waits md ops L i
  | n + 1, L, i => waits md ops L i || (match ops[L]? with
    | none => false
    | some o => o.after.any fun e => Region.binds md e && waitsT md ops n e.on i)
/-- All for which a listed one waits are listed. -/
def Closed (md : Region.Mode) (ops : Array Oper) (listed : Array Bool) : Prop := ∀ j o, ops[j]? = some o → listed.getD j false = true → ∀ e ∈ o.after, Region.binds md e = true → listed.getD e.on false = true
def closedB (md : Region.Mode) (ops : Array Oper) (listed : Array Bool) : Bool := (List.range ops.size).all fun j => match ops[j]? with
  | none => true
  | some o => !listed.getD j false || o.after.all fun e => !Region.binds md e || listed.getD e.on false
theorem closed_of {listed : Array Bool} (h : closedB md ops listed = true) : Closed md ops listed := by
  intro j o hj hl e he hb
  unfold closedB at h
  rw [List.all_eq_true] at h
  have hlt : j < ops.size := (Array.getElem?_eq_some_iff.1 hj).1
  have h1 := h j (List.mem_range.2 hlt)
  rw [hj] at h1
  simp only [hl, Bool.not_true, Bool.false_or] at h1
  rw [Array.all_eq_true_iff_forall_mem] at h1
  have h2 := h1 e he
  simpa [hb] using h2
theorem Closed.next {listed : Array Bool} (h : Closed md ops listed) {j : Nat} (hj : j ∈ Region.ready md ops listed) : Closed md ops (listed.setIfInBounds j true) := by
  intro k o hk hl e he hb
  by_cases hjk : j = k
  · subst hjk
    obtain ⟨_, oj, hoj, hall⟩ := mem_ready.1 hj
    rw [hk] at hoj
    cases hoj
    exact getD_set_true (hall e he hb)
  · rw [getD_set_ne false hjk] at hl
    exact getD_set_true (h k o hk hl e he hb)
theorem waitsT_not {listed : Array Bool} (hc : Closed md ops listed) {i : Nat} (hi : listed.getD i false = false) : ∀ (n L : Nat), waitsT md ops n L i = true → ∀ o, ops[L]? = some o → ¬ ∀ e ∈ o.after, Region.binds md e = true → listed.getD e.on false = true
  | 0, L, hw, o, ho, hall => by
    unfold waitsT waits at hw
    rw [ho] at hw
    simp only [Array.any_eq_true] at hw
    obtain ⟨x, hx, hb⟩ := hw
    simp only [Bool.and_eq_true, beq_iff_eq] at hb
    have := hall _ (Array.getElem_mem hx) hb.1
    rw [hb.2, hi] at this
    cases this
  | n + 1, L, hw, o, ho, hall => by
    unfold waitsT at hw
    rw [Bool.or_eq_true] at hw
    rcases hw with hw | hw
    · exact waitsT_not hc hi 0 L hw o ho hall
    · rw [ho] at hw
      simp only [Array.any_eq_true] at hw
      obtain ⟨x, hx, hb⟩ := hw
      simp only [Bool.and_eq_true] at hb
      have hl := hall _ (Array.getElem_mem hx) hb.1
      have ⟨o', ho'⟩ : ∃ o', ops[(o.after[x]).on]? = some o' := by
        cases ho' : ops[(o.after[x]).on]? with
        | some o' => exact ⟨o', rfl⟩
        | none =>
          exfalso
          have h2 := hb.2
          cases n with
          | zero => unfold waitsT waits at h2; rw [ho'] at h2; cases h2
          | succ n => unfold waitsT waits at h2; rw [ho'] at h2; cases h2
      exact waitsT_not hc hi n _ hb.2 o' ho' (fun e he hbe => hc _ o' ho' hl e he hbe)

theorem till_first {i : Nat} {oi : Oper} {v : Value} (hi : ops[i]? = some oi) (hiL : i ≠ L) (hw : waitsT md ops 9 L i = true) (hsel : ∀ (j : Nat) (o : Oper) cs b, ops[j]? = some o → o.op ≠ .select cs b)
    (hQ : ∀ c a w, Q (.panic c) (a.put oi.dst v) w → Q (.panic c) a w) :
    ∀ (fuel : Nat) (listed : Array Bool) (a : Act) (w : World),
      (∀ j oj, ops[j]? = some oj → j ≠ i → listed.getD j true = false → (∀ e ∈ oj.after, Region.binds md e = true → e.on ≠ i) → oi.apart ops oj = true) →
      i ∈ Region.ready md ops listed → Closed md ops listed → listed.getD L true = false → YieldsIf P ops S oi v a → S w →
      Till P md ops Q S L fuel (listed.setIfInBounds i true) (a.put oi.dst v) w → Till P md ops Q S L (fuel + 1) listed a w := by
  intro fuel
  induction fuel with
  | zero =>
    intro listed a w _ hr _ _ hy hS H
    refine ⟨fun h => (by rw [h] at hr; cases hr), fun j hj => ?_⟩
    by_cases hji : j = i
    · subst hji; exact hy.wpOp hi hS ⟨fun _ _ => hS, H⟩
    · have := ready_mono hj hji
      rw [H.1] at this
      cases this
  | succ fuel ih =>
    intro listed a w hfree hr hcl hLu hy hS H
    refine ⟨fun h => (by rw [h] at hr; cases hr), fun j hj => ?_⟩
    by_cases hji : j = i
    · subst hji; exact hy.wpOp hi hS ⟨fun _ _ => hS, H⟩
    · have h1 := H.2 j (ready_mono hj hji)
      obtain ⟨hjun, oj, hoj, hall⟩ := mem_ready.1 hj
      have hnot : ∀ e ∈ oj.after, Region.binds md e = true → e.on ≠ i := fun e he hb heq => by
        have h1 := hall e he hb
        have h0 := (mem_ready.1 hr).1
        rw [heq] at h1
        rcases Nat.lt_or_ge i listed.size with h' | h'
        · simp [h'] at h0 h1; rw [h0] at h1; cases h1
        · simp [Array.getElem?_eq_none h'] at h1
      have hiu : listed.getD i false = false := by
        have h0 := (mem_ready.1 hr).1
        rcases Nat.lt_or_ge i listed.size with h' | h'
        · simp [h'] at h0 ⊢; exact h0
        · simp [Array.getElem?_eq_none h'] at h0
      have hjL : j ≠ L := by
        intro e
        subst e
        exact waitsT_not hcl hiu 9 j hw oj hoj hall
      have h2 := wpOp_putIf hoj (hfree j oj hoj hji hjun hnot) (fun cs b => hsel i oi cs b hi) (fun cs b => hsel j oj cs b hoj) hQ hy h1
      have hfree' : ∀ k ok, ops[k]? = some ok → k ≠ i → (listed.setIfInBounds j true).getD k true = false →
          (∀ e ∈ ok.after, Region.binds md e = true → e.on ≠ i) → oi.apart ops ok = true := fun k ok hk hki hun hno => by
        refine hfree k ok hk hki ?_ hno
        by_cases hjk : j = k
        · subst hjk; exact hjun
        · rw [getD_set_ne true hjk] at hun; exact hun
      have hLi : (listed.setIfInBounds i true).getD L true = false := by rw [getD_set_ne true hiL]; exact hLu
      have hLj : (listed.setIfInBounds j true).getD L true = false := by rw [getD_set_ne true hjL]; exact hLu
      refine wpOp_mono (fun a' w' h3 => ⟨fun hjL _ => h3.2.1 hjL hLi, ih (listed.setIfInBounds j true) a' w' hfree' (ready_mono hr (Ne.symm hji)) (hcl.next hj) hLj h3.1 (h3.2.1 hjL hLi) ?_⟩) h2
      rw [Array.setIfInBounds_comm _ _ hji]
      exact h3.2.2
/-- .. where it looks at no memory. -/
theorem till_pure {i : Nat} {oi : Oper} {v : Value} (hi : ops[i]? = some oi) (hiL : i ≠ L) (hsel : ∀ (j : Nat) (o : Oper) cs b, ops[j]? = some o → o.op ≠ .select cs b)
    (hQ : ∀ c a w, Q (.panic c) (a.put oi.dst v) w → Q (.panic c) a w) :
    ∀ (fuel : Nat) (listed : Array Bool) (a : Act) (w : World),
      (∀ j oj, ops[j]? = some oj → j ≠ i → listed.getD j true = false → (∀ e ∈ oj.after, Region.binds md e = true → e.on ≠ i) → oi.apart ops oj = true) →
      i ∈ Region.ready md ops listed → YieldsIf P ops (fun _ => True) oi v a → (listed.getD L true = false → S w) →
      Till P md ops Q S L fuel (listed.setIfInBounds i true) (a.put oi.dst v) w → Till P md ops Q S L (fuel + 1) listed a w := by
  intro fuel
  induction fuel with
  | zero =>
    intro listed a w _ hr hy hS H
    refine ⟨fun h => (by rw [h] at hr; cases hr), fun j hj => ?_⟩
    by_cases hji : j = i
    · subst hji; exact hy.wpOp hi trivial ⟨fun _ h => hS h, H⟩
    · have := ready_mono hj hji
      rw [H.1] at this
      cases this
  | succ fuel ih =>
    intro listed a w hfree hr hy hS H
    refine ⟨fun h => (by rw [h] at hr; cases hr), fun j hj => ?_⟩
    by_cases hji : j = i
    · subst hji; exact hy.wpOp hi trivial ⟨fun _ h => hS h, H⟩
    · have h1 := H.2 j (ready_mono hj hji)
      obtain ⟨hjun, oj, hoj, hall⟩ := mem_ready.1 hj
      have hnot : ∀ e ∈ oj.after, Region.binds md e = true → e.on ≠ i := fun e he hb heq => by
        have h1 := hall e he hb
        have h0 := (mem_ready.1 hr).1
        rw [heq] at h1
        rcases Nat.lt_or_ge i listed.size with h' | h'
        · simp [h'] at h0 h1; rw [h0] at h1; cases h1
        · simp [Array.getElem?_eq_none h'] at h1
      have h2 := wpOp_putIf hoj (hfree j oj hoj hji hjun hnot) (fun cs b => hsel i oi cs b hi) (fun cs b => hsel j oj cs b hoj) hQ hy h1
      have hfree' : ∀ k ok, ops[k]? = some ok → k ≠ i → (listed.setIfInBounds j true).getD k true = false →
          (∀ e ∈ ok.after, Region.binds md e = true → e.on ≠ i) → oi.apart ops ok = true := fun k ok hk hki hun hno => by
        refine hfree k ok hk hki ?_ hno
        by_cases hjk : j = k
        · subst hjk; exact hjun
        · rw [getD_set_ne true hjk] at hun; exact hun
      have hLi : listed.getD L true = false → (listed.setIfInBounds i true).getD L true = false := fun h => by rw [getD_set_ne true hiL]; exact h
      refine wpOp_mono (fun a' w' h3 => ⟨fun hjL hu => h3.2.1 hjL (hLi hu), ih (listed.setIfInBounds j true) a' w' hfree' (ready_mono hr (Ne.symm hji)) h3.1 (fun hu => ?_) ?_⟩) h2
      · by_cases hjL : j = L
        · subst hjL
          rcases Nat.lt_or_ge j listed.size with h' | h'
          · simp [h'] at hu
          · simp [Array.getElem?_eq_none h'] at hjun
        · exact h3.2.1 hjL (hLi (by rw [getD_set_ne true hjL] at hu; exact hu))
      · rw [Array.setIfInBounds_comm _ _ hji]
        exact h3.2.2

/-- Take number i first. -/
theorem till_take (i : Nat) {oi : Oper} {v : Value} {fuel : Nat} {listed : Array Bool} {a : Act} {w : World} (hi : ops[i]? = some oi) (hiL : i ≠ L) (hw : (waitsT md ops 9 L i && closedB md ops listed) = true)
    (hs : Region.noSelect ops = true) (hf : Region.free md ops listed i = true) (hr : (Region.ready md ops listed).contains i = true) (hu : listed.getD L true = false)
    (hQ : ∀ c a w, Q (.panic c) (a.put oi.dst v) w → Q (.panic c) a w) (hy : YieldsIf P ops S oi v a) (hS : S w)
    (h : Till P md ops Q S L fuel (listed.setIfInBounds i true) (a.put oi.dst v) w) : Till P md ops Q S L (fuel + 1) listed a w :=
  till_first hi hiL (by simp only [Bool.and_eq_true] at hw; exact hw.1) (Region.noSelect_spec hs) hQ fuel listed a w (Region.free_spec hi hf) (by simpa using hr) (closed_of (by simp only [Bool.and_eq_true] at hw; exact hw.2)) hu hy hS h
/-- .. one that looks at no memory. -/
theorem till_go (i : Nat) {oi : Oper} {v : Value} {fuel : Nat} {listed : Array Bool} {a : Act} {w : World} (hi : ops[i]? = some oi) (hiL : i ≠ L)
    (hs : Region.noSelect ops = true) (hf : Region.free md ops listed i = true) (hr : (Region.ready md ops listed).contains i = true)
    (hQ : ∀ c a w, Q (.panic c) (a.put oi.dst v) w → Q (.panic c) a w) (hy : YieldsIf P ops (fun _ => True) oi v a) (hS : S w)
    (h : Till P md ops Q S L fuel (listed.setIfInBounds i true) (a.put oi.dst v) w) : Till P md ops Q S L (fuel + 1) listed a w :=
  till_pure hi hiL (Region.noSelect_spec hs) hQ fuel listed a w (Region.free_spec hi hf) (by simpa using hr) hy (fun _ => hS) h
/-- One alone may come up. -/
theorem till_step (i : Nat) {o : Oper} {fuel : Nat} {listed : Array Bool} {a : Act} {w : World} (ho : ops[i]? = some o) (hiL : i ≠ L) (hr : Region.ready md ops listed = [i])
    (h : ∀ K' : Act → World → Prop, Shut (∀ a w, S w → (S w → Till P md ops Q S L fuel (listed.setIfInBounds i true) a w) → K' a w) → if Region.wanted o (yielded ops a.tmps) = true then Oper.wp P o a w K' Q else K' (a.put o.dst undef) w) :
    Till P md ops Q S L (fuel + 1) listed a w := by
  refine ⟨fun e => (by rw [hr] at e; cases e), fun j hj => ?_⟩
  rw [hr] at hj
  obtain rfl : j = i := by simpa using hj
  exact wpOp_step ho (fun K' hK => h K' (fun a w hS hW => hK a w ⟨fun _ _ => hS, hW hS⟩))
/-- The last one. -/
theorem till_last {o : Oper} {listed : Array Bool} {a : Act} {w : World} (ho : ops[L]? = some o) (hr : Region.ready md ops listed = [L]) (hd : Region.ready md ops (listed.setIfInBounds L true) = [])
    (h : ∀ K' : Act → World → Prop, Shut (∀ a w, Q .normal a w → K' a w) → if Region.wanted o (yielded ops a.tmps) = true then Oper.wp P o a w K' Q else K' (a.put o.dst undef) w) (fuel : Nat) :
    Till P md ops Q S L (fuel + 1) listed a w := by
  refine ⟨fun e => (by rw [hr] at e; cases e), fun j hj => ?_⟩
  rw [hr] at hj
  obtain rfl : j = L := by simpa using hj
  refine wpOp_step ho (fun K' hK => h K' (fun a w hQ => hK a w ⟨fun e => absurd rfl e, ?_⟩))
  cases fuel with
  | zero => exact ⟨hd, hQ⟩
  | succ f => exact ⟨fun _ => hQ, by rw [hd]; simp⟩
/-- The beginning. -/
theorem wp_region_till (L : Nat) (S : World → Prop) {id : Nat} {a : Act} {w : World} (hm : P.follows .mixedOrders = true) (hS : S w.drew)
    (h : S w.drew → Till P .any ops Q S L ops.size (Array.replicate ops.size false) a w.drew) : (Code.region id ops true).wp P Q a w :=
  wp_region_any hm (wpAny_of_till _ _ _ _ (h hS))
end
end Go.Proofs.YtcgpgflnihjpiafGreat

/- Appending a slice that may be nil to a row of the call's own, at a step of a region: rows, ints, heads. -/
namespace Go.Proofs.YtcgpgflnihjpiafGreat
open Go.RowKit

theorem step_append_any {w : World} {ops : Array Oper} {o : Oper} {a : Act} {K : Act → World → Prop} {Q : Exit → Act → World → Prop} {E : Prop} (hgd : o.guard = none) (s x : Operand) (t : TypeId)
    (ho : o.op = .call { callee := .builtin .append, args := #[s, x], argTypes := #[t, t] })
    (base : Nat) (e : TypeId) (i : TypeInfo) (z : Value) (size bytes : Nat) (ht : Tryz.prog.underlying t = some (.slice e)) (hi : Tryz.prog.info? e = some i) (hz : i.zero = some z)
    (hsize : i.size = size) (hby : i.bytes = bytes) (hzs : z.cells.size = size) (hsz : 0 < size)
    (v : Value) (n : Nat) (xs : List Value) (hs : a.eval s = v) (hown : w.ownsRow base e size v n xs)
    (ao : Option Addr) (m c : Nat) (news : List Value) (hx : a.eval x = .slice ao m c) (hl : news.length = m * size) (hnews : ∀ ad, ao = some ad → ∀ j u, news[j]? = some u → w.cell? (ad.add j) = some u) (hnil : ao = none → m = 0 ∧ c = 0) (h1 : ∀ u ∈ news, u.oneCell' = true)
    (h63 : n + m ≤ maxLen) (hbytes : (n + m) * bytes ≤ 140737488355328) (hbase : base ≤ w.heap.size)
    (h : ∀ v' w', w'.ownsRow base e size v' (n + m) (xs ++ news) → w.grownBy w' v.ownBlock → K (a.put o.dst v') w') :
    if Region.wanted o (yielded ops a.tmps) = true then Oper.wp Tryz.prog o a w K Q else E := by
  have hw : Region.wanted o (yielded ops a.tmps) = true := by simp [Region.wanted, hgd]
  rw [if_pos hw]
  cases ao with
  | none =>
    obtain ⟨rfl, rfl⟩ := hnil rfl
    have e2 : news = [] := List.eq_nil_of_length_eq_zero (by omega)
    subst e2
    have hrun := run_append_owned_none (P := Tryz.prog) (w := w) base t o.type e i size ht hi v n xs hown
    have hk := h v w (by simpa using hown) ⟨rfl, rfl, rfl, Nat.le_refl _, fun _ _ _ => rfl⟩
    unfold Oper.wp
    simp [execOp, ho, resolve, invoke, builtin, hs, hx, hrun, Result.andThen]
    exact hk
  | some ad =>
    exact wp_append_own w s x t ho base e i z size bytes ht hi hz hsize hby hzs hsz v n xs hs hown ad m c news hx hl (hnews ad rfl) h1 h63 hbytes hbase (fun v' w' k1 k2 _ => h v' w' k1 k2)

theorem news_rd {w : World} {ao : Option Addr} {n : Nat} {l : List (Int × Int)} (h : Rd w ao n l) : ∀ ad, ao = some ad → ∀ j u, (enc l)[j]? = some u → w.cell? (ad.add j) = some u := by
  intro ad e
  rcases h.cases with ⟨rfl, rfl⟩ | ⟨b, off, hab, hn, hl, hB, hc⟩
  · intro j u hj; simp [YtcgpgflnihjpiafGreat.enc] at hj
  · obtain rfl : ad = ⟨b, off, none⟩ := by rw [e] at hab; simpa using hab
    exact Rd.enc hl hc
theorem news_ri {w : World} {ao : Option Addr} {n : Nat} {l : List Int} (h : Ri w ao n l) : ∀ ad, ao = some ad → ∀ j u, (l.map (Value.int .i64))[j]? = some u → w.cell? (ad.add j) = some u := by
  intro ad e j u hj
  rcases h.cases with ⟨rfl, rfl⟩ | ⟨b, off, hab, hn, hl, hB, hc⟩
  · simp at hj
  · obtain rfl : ad = ⟨b, off, none⟩ := by rw [e] at hab; simpa using hab
    have hjl : j < l.length := by have := (List.getElem?_eq_some_iff.1 hj).1; simpa using this
    rw [Addr.add_lit, hc j (by omega)]
    simp [List.getElem?_map, List.getElem?_eq_getElem hjl] at hj
    rw [← hj]
    simp [List.getD, hjl]
theorem news_hs {w : World} {ao : Option Addr} {n : Nat} {H : List M.Hd} (h : Hs w ao n H) : ∀ ad, ao = some ad → ∀ j u, (encH H)[j]? = some u → w.cell? (ad.add j) = some u := by
  intro ad e j u hj
  obtain ⟨hl, h0 | ⟨b, off, hab, hB, hc⟩⟩ := h
  · obtain rfl : H = [] := List.eq_nil_of_length_eq_zero (by omega)
    simp [encH] at hj
  · obtain rfl : ad = ⟨b, off, none⟩ := by rw [e] at hab; simpa using hab
    have hjl : j < (encH H).length := (List.getElem?_eq_some_iff.1 hj).1
    rw [encH_length] at hjl
    have q := hc (j / 2) (by omega)
    rw [Addr.add_lit]
    have h2 : j % 2 = 0 ∨ j % 2 = 1 := by omega
    rcases h2 with h2 | h2
    · have ej : j = j / 2 * 2 := by omega
      rw [ej] at hj ⊢
      rw [encH_name H (j / 2) (by omega)] at hj
      rw [← hj]; exact q.1
    · have ej : j = j / 2 * 2 + 1 := by omega
      rw [ej] at hj ⊢
      rw [encH_at H (j / 2) (by omega)] at hj
      rw [← hj, ← Nat.add_assoc]; exact q.2.1
theorem hs_small {w : World} {ao : Option Addr} {n : Nat} {H : List M.Hd} (h : Hs w ao n H) : ∀ x ∈ H, x.1.size ≤ 9223372036854775807 := by
  intro x hx
  obtain ⟨i, hi, e⟩ := List.getElem_of_mem hx
  obtain ⟨hl, h0 | ⟨b, off, hab, hB, hc⟩⟩ := h
  · omega
  · have := (hc i (by omega)).2.2
    rwa [show H.getD i M.hd0 = x by simp [List.getD, hi, e]] at this

theorem step_rows {w : World} {ops : Array Oper} {o : Oper} {a : Act} {K : Act → World → Prop} {Q : Exit → Act → World → Prop} {E : Prop} (hgd : o.guard = none) (s x : Operand)
    (ho : o.op = .call { callee := .builtin .append, args := #[s, x], argTypes := #[49, 49] })
    (base : Nat) (v : Value) (l : List (Int × Int)) (hs : a.eval s = v) (hown : Own w base v l)
    (ao : Option Addr) (m c : Nat) (l2 : List (Int × Int)) (hx : a.eval x = .slice ao m c) (hr : Rd w ao m l2) (hnil : ao = none → m = 0 ∧ c = 0)
    (hbig : l.length + m ≤ 1000000) (hbase : base ≤ w.heap.size)
    (h : ∀ v' w', Own w' base v' (l ++ l2) → w.grownBy w' v.ownBlock → K (a.put o.dst v') w') :
    if Region.wanted o (yielded ops a.tmps) = true then Oper.wp Tryz.prog o a w K Q else E := by
  obtain ⟨i0, hi, hz0, hz1, hz2⟩ := info_parts infoRow
  refine step_append_any hgd s x 49 ho base 98 i0 (.agg #[.int .i64 0, .int .i64 0]) 2 16 Tryz.underlying49 hi hz0 hz1 hz2 rfl (by decide) v l.length (enc l) hs hown ao m c (enc l2) hx (by rw [enc_length, hr.1]) (news_rd hr) hnil (enc_one l2)
    (by simp only [maxLen]; omega) (by omega) hbase ?_
  intro v' w' h1 h2
  refine h v' w' ?_ h2
  unfold Own
  rw [enc_append, List.length_append, hr.1]
  exact h1
theorem step_ints {w : World} {ops : Array Oper} {o : Oper} {a : Act} {K : Act → World → Prop} {Q : Exit → Act → World → Prop} {E : Prop} (hgd : o.guard = none) (s x : Operand)
    (ho : o.op = .call { callee := .builtin .append, args := #[s, x], argTypes := #[38, 38] })
    (base : Nat) (v : Value) (l : List Int) (hs : a.eval s = v) (hown : OwnI w base v l)
    (ao : Option Addr) (m c : Nat) (l2 : List Int) (hx : a.eval x = .slice ao m c) (hr : Ri w ao m l2) (hnil : ao = none → m = 0 ∧ c = 0)
    (hbig : l.length + m ≤ 1000000) (hbase : base ≤ w.heap.size)
    (h : ∀ v' w', OwnI w' base v' (l ++ l2) → w.grownBy w' v.ownBlock → K (a.put o.dst v') w') :
    if Region.wanted o (yielded ops a.tmps) = true then Oper.wp Tryz.prog o a w K Q else E := by
  obtain ⟨i0, hi, hz0, hz1, hz2⟩ := info_parts infoInt
  refine step_append_any hgd s x 38 ho base 3 i0 (.int .i64 0) 1 8 Tryz.underlying38 hi hz0 hz1 hz2 rfl (by decide) v l.length (l.map (Value.int .i64)) hs hown ao m c (l2.map (Value.int .i64)) hx (by rw [List.length_map, hr.1]; omega) (news_ri hr) hnil (fun u hu => by obtain ⟨q, _, rfl⟩ := List.mem_map.1 hu; rfl)
    (by simp only [maxLen]; omega) (by omega) hbase ?_
  intro v' w' h1 h2
  refine h v' w' ?_ h2
  unfold OwnI
  rw [List.map_append, List.length_append, hr.1]
  exact h1
theorem step_heads {w : World} {ops : Array Oper} {o : Oper} {a : Act} {K : Act → World → Prop} {Q : Exit → Act → World → Prop} {E : Prop} (hgd : o.guard = none) (s x : Operand)
    (ho : o.op = .call { callee := .builtin .append, args := #[s, x], argTypes := #[23, 23] })
    (base : Nat) (v : Value) (l : List M.Hd) (hs : a.eval s = v) (hown : OwnH w base v l)
    (ao : Option Addr) (m c : Nat) (l2 : List M.Hd) (hx : a.eval x = .slice ao m c) (hr : Hs w ao m l2) (hnil : ao = none → m = 0 ∧ c = 0)
    (hbig : l.length + m ≤ 1000000) (hbase : base ≤ w.heap.size)
    (h : ∀ v' w', OwnH w' base v' (l ++ l2) → w.grownBy w' v.ownBlock → K (a.put o.dst v') w') :
    if Region.wanted o (yielded ops a.tmps) = true then Oper.wp Tryz.prog o a w K Q else E := by
  obtain ⟨i0, hi, hz0, hz1, hz2⟩ := info_parts infoHead
  refine step_append_any hgd s x 23 ho base 71 i0 (.agg #[.string ⟨#[]⟩, .int .i64 0]) 2 24 Tryz.underlying23 hi hz0 hz1 hz2 rfl (by decide) v l.length (encH l) hs hown.1 ao m c (encH l2) hx (by rw [encH_length, hr.1]) (news_hs hr) hnil (encH_one l2)
    (by simp only [maxLen]; omega) (by omega) hbase ?_
  intro v' w' h1 h2
  refine h v' w' ⟨?_, fun x hx => ?_⟩ h2
  · rw [encH_append, List.length_append, hr.1]
    exact h1
  · rcases List.mem_append.1 hx with hx | hx
    · exact hown.2 x hx
    · exact hs_small hr x hx
theorem wpl_heads {w : World} {ops : Array Oper} {rest : List Oper} {o : Oper} {a : Act} {Q : Exit → Act → World → Prop} (hgd : o.guard = none) (s x : Operand)
    (ho : o.op = .call { callee := .builtin .append, args := #[s, x], argTypes := #[23, 23] })
    (base : Nat) (v : Value) (l : List M.Hd) (hs : a.eval s = v) (hown : OwnH w base v l)
    (ao : Option Addr) (m c : Nat) (l2 : List M.Hd) (hx : a.eval x = .slice ao m c) (hr : Hs w ao m l2) (hnil : ao = none → m = 0 ∧ c = 0)
    (hbig : l.length + m ≤ 1000000) (hbase : base ≤ w.heap.size)
    (h : ∀ v' w', OwnH w' base v' (l ++ l2) → w.grownBy w' v.ownBlock → wpList Tryz.prog ops Q rest (a.put o.dst v') w') : wpList Tryz.prog ops Q (o :: rest) a w := by
  refine wpList_plain hgd fun K hK => ?_
  have := step_heads (ops := ops) (K := K) (Q := Q) (E := True) hgd s x ho base v l hs hown ao m c l2 hx hr hnil hbig hbase (fun v' w' h1 h2 => hK _ _ (h v' w' h1 h2))
  rwa [if_pos (by simp [Region.wanted, hgd])] at this
theorem own_empty (w : World) (base : Nat) (e : TypeId) (size : Nat) (hb : base ≤ w.heap.size) : (w.alloc (.cells #[] e)).ownsRow base e size (.slice (some ⟨w.heap.size, 0, none⟩) 0 0) 0 [] :=
  ⟨by simp, Or.inr ⟨w.heap.size, 0, #[], rfl, hb, heap_alloc_new _ _, Nat.le_refl _, by simp [maxLen], by simp, by simp⟩⟩

section
variable {P : Program} {ops : Array Oper} {Q : Exit → Act → World → Prop} {md : Region.Mode} {S : World → Prop} {L : Nat}
/-- Two may come up. -/
theorem till_two (i j : Nat) {o o' : Oper} {fuel : Nat} {listed : Array Bool} {a : Act} {w : World} (ho : ops[i]? = some o) (ho' : ops[j]? = some o') (hiL : i ≠ L) (hjL : j ≠ L) (hr : Region.ready md ops listed = [i, j])
    (h : ∀ K' : Act → World → Prop, Shut (∀ a w, S w → (S w → Till P md ops Q S L fuel (listed.setIfInBounds i true) a w) → K' a w) → if Region.wanted o (yielded ops a.tmps) = true then Oper.wp P o a w K' Q else K' (a.put o.dst undef) w)
    (h' : ∀ K' : Act → World → Prop, Shut (∀ a w, S w → (S w → Till P md ops Q S L fuel (listed.setIfInBounds j true) a w) → K' a w) → if Region.wanted o' (yielded ops a.tmps) = true then Oper.wp P o' a w K' Q else K' (a.put o'.dst undef) w) :
    Till P md ops Q S L (fuel + 1) listed a w := by
  refine ⟨fun e => (by rw [hr] at e; cases e), fun k hk => ?_⟩
  rw [hr] at hk
  have hk2 : k = i ∨ k = j := by simpa using hk
  rcases hk2 with rfl | rfl
  · exact wpOp_step ho (fun K' hK => h K' (fun a w hS hW => hK a w ⟨fun _ _ => hS, hW hS⟩))
  · exact wpOp_step ho' (fun K' hK => h' K' (fun a w hS hW => hK a w ⟨fun _ _ => hS, hW hS⟩))
end
end Go.Proofs.YtcgpgflnihjpiafGreat
