/- The reader of bytes: a repo; what ends too early is left by a panic, which is recovered. -/
import Derived.Test.YtcgpgflnihjpiagRdr5
import Derived.Defers
import Derived.Recover
import Derived.Laws.Pointers
namespace Go.Proofs.Ytcgpgflnihjpiag
open Go.RowKit

theorem ownsRow_same {w w' : World} {base : Nat} {e : TypeId} {size : Nat} {v : Value} {n : Nat} {xs : List Value} (h : w.ownsRow base e size v n xs) (hk : ∀ k, base ≤ k → k < w.heap.size → w'.heap[k]? = w.heap[k]?) : w'.ownsRow base e size v n xs := by
  obtain ⟨h1, h2⟩ := h
  refine ⟨h1, ?_⟩
  rcases h2 with h2 | ⟨g, cap, cur, hv, hg, hh, r⟩
  · exact Or.inl h2
  · exact Or.inr ⟨g, cap, cur, hv, hg, (hk g hg (Array.getElem?_eq_some_iff.1 hh).1).trans hh, r⟩
theorem RepoOwn.same {w w' : World} {base : Nat} {v : Value} {C : List M.Com} {H : List M.Hd} (h : RepoOwn w base v C H) (hk : ∀ k, base ≤ k → k < w.heap.size → w'.heap[k]? = w.heap[k]?) : RepoOwn w' base v C H := by
  obtain ⟨x, y, e, ⟨vals, h1, h2, h3⟩, h4, h5⟩ := h
  exact ⟨x, y, e, ⟨vals, h1, ownsRow_same h2 hk, fun i hi => ⟨ownsRow_same (h3 i hi).1 hk, ownsRow_same (h3 i hi).2.1 hk, (h3 i hi).2.2⟩⟩, ownsRow_same h4 hk, h5⟩

theorem run_assertR (xt : TypeId) (w : World) : Sem.run Try.prog (Instr.typeAssert (.iface 26 (.int .i64 1)) xt 26 false) w = .ok (.int .i64 1) w := by
  simp [Instr.typeAssert, go_sem]
set_option maxRecDepth 100000 in
theorem catchR_panicking (p : Addr) (x : Int) (older : List PanicEntry) (w : World) (hc : w.cell? p = some (.int .i64 x)) (hz : w.frozen? p = false) :
    CallsD Try.prog 38 #[.pointer (some p)] (.panicking ({ v := .iface 26 (.int .i64 1), recovered := false } :: older)) w fun e u' w' =>
      e = .returned (.tuple #[]) ∧ u' = .panicking ({ v := .iface 26 (.int .i64 1), recovered := true } :: older) ∧ w' = w.setCell p (.int .i64 1) := by
  refine callsD_of_wpS Try.func38 rfl fun c₀ cs hu => ?_
  apply wpS_seq
  apply wpS_region
  simp [wpOpsS, go_sem, recoverD, hu, Try.ntmps38, Exit.thenS]
  apply wpS_seq
  apply wpS_region
  simp [wpOpsS, go_sem, Exit.thenS]
  refine wpS_cond (t := true) (by simp [Act.eval]) ?_
  simp only [if_true]
  apply wpS_region
  simp [wpOpsS, go_sem, run_assertR, hc, hz, bodyPostS, results, Try.results38]
set_option maxRecDepth 100000 in
theorem catchR_idle (p : Addr) (w : World) :
    CallsD Try.prog 38 #[.pointer (some p)] .returning w fun e u' w' => e = .returned (.tuple #[]) ∧ u' = .returning ∧ w' = w := by
  refine callsD_of_wpS Try.func38 rfl fun c₀ cs hu => ?_
  apply wpS_seq
  apply wpS_region
  simp [wpOpsS, go_sem, recoverD, hu, Try.ntmps38, Exit.thenS]
  apply wpS_seq
  apply wpS_region
  simp [wpOpsS, go_sem, Exit.thenS]
  refine wpS_cond (t := false) (by simp [Act.eval]) ?_
  simp only [Bool.false_eq_true, if_false]
  refine wpS_of_wp (wp_skip ?_)
  cases c₀
  simp_all [bodyPostS, results, Try.results38]

set_option maxRecDepth 100000 in
set_option maxHeartbeats 4000000 in
theorem readRe_any (l : M.By) (w : World) (hl : l.length ≤ 1000000) :
    Calls Try.prog 22 #[.string (M.str l), .func (.func 23) #[] #[]] w fun e w' => Below w.heap.size w w' ∧
      ((∃ x t v, M.rRe l = some (x, t) ∧ e = .returned (.tuple #[v, .int .i64 ((l.length - t.length : Nat) : Int), .int .i64 0]) ∧ isRepo w.heap.size x v w') ∨
       (M.rRe l = none ∧ e = .returned (.tuple #[.agg #[.slice none 0 0, .slice none 0 0], .int .i64 0, .int .i64 1]))) := by
  have hmf : ∀ (fn : Fn) (first cap : Array Value) (w : World), (Instr.makeFunc fn first cap).run Try.prog w = .ok (.func fn first cap) w := fun _ _ _ _ => rfl
  obtain ⟨s, hs⟩ : ∃ s, s = M.str l := ⟨_, rfl⟩
  obtain ⟨p, hp⟩ : ∃ p, p = w.heap.size := ⟨_, rfl⟩
  obtain ⟨W, hW⟩ : ∃ W, W = ((w.alloc (.cells #[.slice none 0 0, .slice none 0 0] 25)).alloc (.cells #[.int .i64 0] 26)).alloc (.cells #[.string s] 76) := ⟨_, rfl⟩
  have hb : Below w.heap.size w W := by rw [hW]; exact (((Below.refl _ _).alloc (Nat.le_refl _) _).alloc (by simp) _).alloc (by simp; omega) _
  have hR0 : RdAt W (p + 1 + 1) l := ⟨by rw [hW, hp, ← hs, show w.heap.size + 1 + 1 = ((w.alloc (.cells #[.slice none 0 0, .slice none 0 0] 25)).alloc (.cells #[.int .i64 0] 26)).heap.size by simp]; exact heap_alloc_new _ _, by omega⟩
  have K : Hid (Calls Try.prog 23 #[.pointer (some ⟨p + 1 + 1, 0, none⟩)] W fun e w' => Reads (p + 1 + 1) W w' (M.rRe l) (isRepo W.heap.size) e) := rrepo_any (p + 1 + 1) l W hR0
  have HW : Hid (W = ((w.alloc (.cells #[.slice none 0 0, .slice none 0 0] 25)).alloc (.cells #[.int .i64 0] 26)).alloc (.cells #[.string s] 76)) := hW
  have HP : Aside (p = w.heap.size) := hp
  rw [← hs]
  have HS : Aside (s.size = l.length) := by unfold Aside; rw [hs, M.str_size]
  clear hW hp hR0 hs
  go_enter_defers Try.func22, Try.ntmps22
  go_wp2_with fail
  rw [← HW.out, ← HP.out]
  refine K.out.mono ?_
  rintro e w1 ⟨hb1, ⟨x, t, v, h1, rfl, ha, hr⟩ | ⟨h1, rfl⟩⟩
  · obtain ⟨ca, cc, da, dc, hv, _⟩ := RepoOwn.v ha
    obtain ⟨cn, hcn⟩ : ∃ cn, cn = x.1.length := ⟨_, rfl⟩
    obtain ⟨dn, hdn⟩ : ∃ dn, dn = (x.2.map M.hdS).length := ⟨_, rfl⟩
    rw [← hcn, ← hdn] at hv
    subst hv
    obtain ⟨r, hrr⟩ : ∃ r, r = M.str t := ⟨_, rfl⟩
    have hsW : W.heap.size = p + 1 + 1 + 1 := by rw [HW.out, HP.out]; simp
    have q0 : W.heap[p]? = some (.cells #[.slice none 0 0, .slice none 0 0] 25 (0, 0)) := by
      rw [HW.out, HP.out, Below.heap_alloc _ _ _ (by simp; omega), Below.heap_alloc _ _ _ (by simp)]; exact heap_alloc_new _ _
    have q1 : W.heap[p + 1]? = some (.cells #[.int .i64 0] 26 (0, 0)) := by
      rw [HW.out, HP.out, Below.heap_alloc _ _ _ (by simp), show w.heap.size + 1 = (w.alloc (.cells #[.slice none 0 0, .slice none 0 0] 25)).heap.size by simp]; exact heap_alloc_new _ _
    have e0 : w1.heap[p]? = some (.cells #[.slice none 0 0, .slice none 0 0] 25 (0, 0)) := (hb1.block p (by omega) (by simp; omega)).trans q0
    have e1 : w1.heap[p + 1]? = some (.cells #[.int .i64 0] 26 (0, 0)) := (hb1.block (p + 1) (by omega) (by simp)).trans q1
    have y0 : w1.cell? ⟨p, 0, none⟩ = some (.slice none 0 0) := by rw [cell_of_row _ _ _ _ _ _ e0]; rfl
    have y1 : w1.cell? ⟨p, 1, none⟩ = some (.slice none 0 0) := by rw [cell_of_row _ _ _ _ _ _ e0]; rfl
    have f0 : w1.frozen? ⟨p, 0, none⟩ = false := frozen_of_row _ _ _ _ _ e0
    have f1 : w1.frozen? ⟨p, 1, none⟩ = false := frozen_of_row _ _ _ _ _ e0
    obtain ⟨X, hX⟩ : ∃ X, X = (w1.setCell ⟨p, 0, none⟩ (.slice ca cn cc)).setCell ⟨p, 1, none⟩ (.slice da dn dc) := ⟨_, rfl⟩
    have qX : X.heap[p]? = some (.cells #[.slice ca cn cc, .slice da dn dc] 25 (0, 0)) := by
      rw [hX, heap_setCell_same _ _ _ _ _ _ (heap_setCell_same _ _ _ _ _ _ e0)]; rfl
    have oth : ∀ k, k ≠ p → X.heap[k]? = w1.heap[k]? := fun k hk => by
      rw [hX, heap_setCell_other _ _ _ _ (by exact hk), heap_setCell_other _ _ _ _ (by exact hk)]
    have qX1 : X.heap[p + 1]? = some (.cells #[.int .i64 0] 26 (0, 0)) := (oth (p + 1) (by omega)).trans e1
    have rX : X.cell? ⟨p + 1 + 1, 0, none⟩ = some (.string r) := by rw [World.cell?_of_block (a := ⟨p + 1 + 1, 0, none⟩) (oth (p + 1 + 1) (by omega)), hr.cell, hrr]
    have HX : Hid (X = (w1.setCell ⟨p, 0, none⟩ (.slice ca cn cc)).setCell ⟨p, 1, none⟩ (.slice da dn dc)) := hX
    have x0 : X.cell? ⟨p, 0, none⟩ = some (.slice ca cn cc) := by rw [cell_of_row _ _ _ _ _ _ qX]; rfl
    have x1 : X.cell? ⟨p, 1, none⟩ = some (.slice da dn dc) := by rw [cell_of_row _ _ _ _ _ _ qX]; rfl
    have g0 : X.frozen? ⟨p, 0, none⟩ = false := frozen_of_row _ _ _ _ _ qX
    have g1 : X.frozen? ⟨p, 1, none⟩ = false := frozen_of_row _ _ _ _ _ qX
    have x4 : X.cell? ⟨p + 1, 0, none⟩ = some (.int .i64 0) := by rw [cell_of_row _ _ _ _ _ _ qX1]; rfl
    have g4 : X.frozen? ⟨p + 1, 0, none⟩ = false := frozen_of_row _ _ _ _ _ qX1
    obtain ⟨L, hL⟩ : ∃ L, s.size = L := ⟨_, rfl⟩
    obtain ⟨M', hM'⟩ : ∃ M', r.size = M' := ⟨_, rfl⟩
    have hLl : L = l.length := by rw [← hL, HS.out]
    have hMt : M' = t.length := by rw [← hM', hrr, M.str_size]
    have htl : t.length ≤ l.length := by have := congrArg List.length (M.rRe_inv h1).1; rw [List.length_append] at this; omega
    have hwr : IntKind.i64.wrap ((L : Int) - (M' : Int)) = ((L - M' : Nat) : Int) := by rw [IntKind.wrap_i64]; omega
    have HLM : Hid (L - M' = l.length - t.length) := by unfold Hid; rw [hLl, hMt]
    have H1 : Hid (M.rRe l = some (x, t)) := h1
    have HRO : Hid (RepoOwn w1 W.heap.size (.agg #[.slice ca cn cc, .slice da dn dc]) x.1 (x.2.map M.hdS)) := ha
    have HQX : Hid (X.heap[p]? = some (.cells #[.slice ca cn cc, .slice da dn dc] 25 (0, 0)) ∧ X.heap[p + 1]? = some (.cells #[.int .i64 0] 26 (0, 0))) := ⟨qX, qX1⟩
    clear hLl hMt htl h1 hX hr oth qX qX1 e0 e1 q0 q1 hsW hrr hcn hdn ha
    go_wp2_with fail
    rw [← HX.out]
    go_region
    obtain ⟨Z, hZ⟩ : ∃ Z, Z = (((X.setCell ⟨p, 0, none⟩ (.slice ca cn cc)).setCell ⟨p, 1, none⟩ (.slice da dn dc)).setCell ⟨p + 1, 0, none⟩ (.int .i64 0)).drew := ⟨_, rfl⟩
    have d1 := heap_setCell_same X p 0 _ _ (.slice ca cn cc) HQX.out.1
    have d2 := heap_setCell_same _ p 1 _ _ (.slice da dn dc) d1
    have zp : Z.heap[p]? = some (.cells #[.slice ca cn cc, .slice da dn dc] 25 (0, 0)) := by
      rw [hZ]
      show (World.setCell _ _ _).heap[p]? = _
      rw [heap_setCell_other _ _ _ _ (by show p ≠ p + 1; omega), d2]; rfl
    have c4 : ((X.setCell ⟨p, 0, none⟩ (.slice ca cn cc)).setCell ⟨p, 1, none⟩ (.slice da dn dc)).heap[p + 1]? = some (.cells #[.int .i64 0] 26 (0, 0)) := by
      rw [heap_setCell_other _ _ _ _ (by show p + 1 ≠ p; omega), heap_setCell_other _ _ _ _ (by show p + 1 ≠ p; omega)]
      exact HQX.out.2
    have zp1 : Z.heap[p + 1]? = some (.cells #[.int .i64 0] 26 (0, 0)) := by
      rw [hZ]
      show (World.setCell _ _ _).heap[p + 1]? = _
      rw [heap_setCell_same _ _ _ _ _ _ c4]; rfl
    have oth : ∀ k, k ≠ p → k ≠ p + 1 → Z.heap[k]? = w1.heap[k]? := fun k hk hk1 => by
      rw [hZ]
      show (World.setCell _ _ _).heap[k]? = _
      rw [heap_setCell_other _ _ _ _ (by exact hk1), heap_setCell_other _ _ _ _ (by exact hk), heap_setCell_other _ _ _ _ (by exact hk), HX.out, heap_setCell_other _ _ _ _ (by exact hk), heap_setCell_other _ _ _ _ (by exact hk)]
    have hsW : W.heap.size = p + 1 + 1 + 1 := by rw [HW.out, HP.out]; simp
    have bw1 : Below w.heap.size w w1 := hb.trans (hb1.below (by omega) |>.mono (by have := HP.out; omega))
    have hpw : w.heap.size ≤ p := by have := HP.out; omega
    have bZ : Below w.heap.size w Z := by
      rw [hZ, HX.out]
      refine Below.drew ?_
      exact ((((bw1.setCell (p := ⟨p, 0, none⟩) hpw _).setCell (p := ⟨p, 1, none⟩) hpw _).setCell (p := ⟨p, 0, none⟩) hpw _).setCell (p := ⟨p, 1, none⟩) hpw _).setCell (p := ⟨p + 1, 0, none⟩) (by show _ ≤ p + 1; omega) _
    have HAZ : Hid (isRepo w.heap.size x (.agg #[.slice ca cn cc, .slice da dn dc]) Z) := (HRO.out.same fun k hk _ => oth k (by omega) (by omega)).lower hb.size
    have HBZ : Hid (Below w.heap.size w Z) := bZ
    have u0 : Z.cell? ⟨p, 0, none⟩ = some (.slice ca cn cc) := by rw [cell_of_row _ _ _ _ _ _ zp]; rfl
    have u1 : Z.cell? ⟨p, 1, none⟩ = some (.slice da dn dc) := by rw [cell_of_row _ _ _ _ _ _ zp]; rfl
    have u4 : Z.cell? ⟨p + 1, 0, none⟩ = some (.int .i64 0) := by rw [cell_of_row _ _ _ _ _ _ zp1]; rfl
    rw [← hZ]
    clear hZ d1 d2 zp c4 zp1 oth hsW bw1 hpw bZ x0 x1 x4 g0 g1 g4 y0 y1 f0 f1 rX
    go_wp2
    refine leaves_cons (f := 38) (args := #[.pointer (some ⟨p + 1, 0, none⟩)]) (by simp) (by simp [go_sem]) ?_
    refine (catchR_idle ⟨p + 1, 0, none⟩ _).mono ?_
    rintro e u' w'' ⟨rfl, rfl, rfl⟩
    simp [Leaves, settle, results, Try.results22, go_sem, u0, u1, u4]
    exact ⟨HBZ.out, x.1, x.2, t, H1.out, _, ⟨rfl, by rw [HLM.out]⟩, HAZ.out⟩
  · have hsW : W.heap.size = p + 1 + 1 + 1 := by rw [HW.out, HP.out]; simp
    have q0 : W.heap[p]? = some (.cells #[.slice none 0 0, .slice none 0 0] 25 (0, 0)) := by
      rw [HW.out, HP.out, Below.heap_alloc _ _ _ (by simp; omega), Below.heap_alloc _ _ _ (by simp)]; exact heap_alloc_new _ _
    have q1 : W.heap[p + 1]? = some (.cells #[.int .i64 0] 26 (0, 0)) := by
      rw [HW.out, HP.out, Below.heap_alloc _ _ _ (by simp), show w.heap.size + 1 = (w.alloc (.cells #[.slice none 0 0, .slice none 0 0] 25)).heap.size by simp]; exact heap_alloc_new _ _
    have e0 : w1.heap[p]? = some (.cells #[.slice none 0 0, .slice none 0 0] 25 (0, 0)) := (hb1.block p (by omega) (by simp; omega)).trans q0
    have e1 : w1.heap[p + 1]? = some (.cells #[.int .i64 0] 26 (0, 0)) := (hb1.block (p + 1) (by omega) (by simp)).trans q1
    have c1 : w1.cell? ⟨p + 1, 0, none⟩ = some (.int .i64 0) := by rw [cell_of_row _ _ _ _ _ _ e1]; rfl
    have z1 : w1.frozen? ⟨p + 1, 0, none⟩ = false := frozen_of_row _ _ _ _ _ e1
    obtain ⟨X, hX⟩ : ∃ X, X = w1.setCell ⟨p + 1, 0, none⟩ (.int .i64 1) := ⟨_, rfl⟩
    have qX : X.heap[p]? = some (.cells #[.slice none 0 0, .slice none 0 0] 25 (0, 0)) := by rw [hX, heap_setCell_other _ _ _ _ (by show p ≠ p + 1; omega)]; exact e0
    have qX1 : X.heap[p + 1]? = some (.cells #[.int .i64 1] 26 (0, 0)) := by rw [hX, heap_setCell_same _ _ _ _ _ _ e1]; rfl
    have x0 : X.cell? ⟨p, 0, none⟩ = some (.slice none 0 0) := by rw [cell_of_row _ _ _ _ _ _ qX]; rfl
    have x1 : X.cell? ⟨p, 1, none⟩ = some (.slice none 0 0) := by rw [cell_of_row _ _ _ _ _ _ qX]; rfl
    have x4 : X.cell? ⟨p + 1, 0, none⟩ = some (.int .i64 1) := by rw [cell_of_row _ _ _ _ _ _ qX1]; rfl
    have bX : Below w.heap.size w X := by
      rw [hX]
      exact (hb.trans (hb1.below (by omega) |>.mono (by have := HP.out; omega))).setCell (p := ⟨p + 1, 0, none⟩) (by show _ ≤ p + 1; have := HP.out; omega) _
    have HBX : Hid (Below w.heap.size w X) := bX
    have HX : Hid (X = w1.setCell ⟨p + 1, 0, none⟩ (.int .i64 1)) := hX
    have H1 : Hid (M.rRe l = none) := h1
    have HCc : Hid (w1.cell? ⟨p + 1, 0, none⟩ = some (.int .i64 0) ∧ w1.frozen? ⟨p + 1, 0, none⟩ = false) := ⟨c1, z1⟩
    clear h1 e0 e1 q0 q1 hsW qX qX1 hX c1 z1 bX
    unfold early
    go_wp2
    refine leaves_cons (f := 38) (args := #[.pointer (some ⟨p + 1, 0, none⟩)]) (by simp) (by simp [go_sem]) ?_
    refine (catchR_panicking ⟨p + 1, 0, none⟩ 0 [] _ HCc.out.1 HCc.out.2).mono ?_
    rintro e u' w'' ⟨rfl, rfl, rfl⟩
    rw [← HX.out]
    simp [Leaves, settle, results, Try.results22, go_sem, x0, x1, x4]
    exact ⟨HBX.out, H1.out⟩
end Go.Proofs.Ytcgpgflnihjpiag
