/- edit.levelBefore, cutAgain. -/
import Derived.Test.YtcgpgflnihjpiacEditA
import Derived.Maps.OwnOps
import Derived.Deep.RegionHeld3
namespace Go.Proofs.Ytcgpgflnihjpiac
open Go.RowKit Go.Shelf Go.Maps

/-- The struct and the map that levelBefore begins with. -/
theorem before_begin (w : World) (cn : Nat) : ∃ W2 m D, (Instr.mapUpdate 85 (.map (some (w.heap.size + 1))) (.int .i64 (-1)) (.int .i64 0)).run Try.prog ((w.alloc (.cells #[.slice none 0 0, .map none] 87)).alloc (.map #[] 0)) = .ok () W2 ∧
    W2.ownsMap Try.prog 3 (RV cn) (w.heap.size + 1) m D ∧ m ≤ 1 ∧ W2.heap[w.heap.size]? = some (.cells #[.slice none 0 0, .map none] 87 (0, 0)) ∧ Below w.heap.size w W2 ∧ w.heap.size + 2 ≤ W2.heap.size := by
  have hm0 := World.ownsMap_made (w.alloc (.cells #[.slice none 0 0, .map none] 87)) Try.prog 3 (RV cn)
  have hs : (w.alloc (.cells #[.slice none 0 0, .map none] 87)).heap.size = w.heap.size + 1 := by simp
  rw [hs] at hm0
  have hkey : keyOf Try.prog 3 (.int .i64 (-1)) = some (.int .i64 (-1)) := keyOf_int_mk Try.underlying3 (by decide)
  obtain ⟨W2, hrun, r1, r2⟩ := hm0.update klaw Try.underlying85 (by unfold maxLen; omega) hkey (RV_mk (c := 0) (by omega) (by omega))
  have hb1 : Below w.heap.size w ((w.alloc (.cells #[.slice none 0 0, .map none] 87)).alloc (.map #[] 0)) := ((Below.refl _ _).alloc (Nat.le_refl _) _).alloc (by simp) _
  refine ⟨W2, _, _, hrun, r1, Nat.le_refl _, ?_, ?_, ?_⟩
  · rw [r2.block w.heap.size (by simp; omega) (by simp)]
    rw [Below.heap_alloc _ _ _ (by simp), World.alloc_heap_new]
  · exact hb1.grown r2 hb1.size (fun k e => by cases e; omega)
  · have := r2.size; simp at this; omega

theorem _root_.Go.World.grownBy.cell_of {w w' : World} {row : Option Nat} (h : w.grownBy w' row) {p : Addr} (hp : p.block < w.heap.size) (hne : some p.block ≠ row) : w'.cell? p = w.cell? p := World.cell?_of_block (w := w) (h.block p.block hp hne)
/-- A store into the map of levelBefore. -/
theorem map_more {w : World} {cn B m i : Nat} {ky : Int} {D : DataW Unit} (h : w.ownsMap Try.prog 3 (RV cn) B m D) (hm : m ≤ 1000) (h0 : -1 ≤ ky) (h1 : ky ≤ 99) (hi : i < cn) :
    ∃ w' D', (Instr.mapUpdate 85 (.map (some B)) (.int .i64 ky) (.int .i64 ((i : Int) + 1))).run Try.prog w = .ok () w' ∧ Hid (w'.ownsMap Try.prog 3 (RV cn) B (m + 1) D' ∧ w.grownBy w' (some B)) := by
  have hkey : keyOf Try.prog 3 (.int .i64 ky) = some (.int .i64 ky) := keyOf_int_mk Try.underlying3 (WalkArith.wf_i64 (by omega))
  obtain ⟨w', hrun, r1, r2⟩ := h.update klaw Try.underlying85 (by unfold maxLen; omega) hkey (RV_mk (c := (i : Int) + 1) (by omega) (by omega))
  exact ⟨w', _, hrun, ⟨r1, r2⟩⟩
theorem before_end {w X : World} {cn B m : Nat} {D : DataW Unit} {v0 v1 : Value} (h : X.ownsMap Try.prog 3 (RV cn) B m D) (hne : B ≠ w.heap.size) (hb : Below w.heap.size w X) :
    ((X.setCell ⟨w.heap.size, 0, none⟩ v0).setCell ⟨w.heap.size, 1, none⟩ v1).ownsMap Try.prog 3 (RV cn) B m D ∧ Below w.heap.size w ((X.setCell ⟨w.heap.size, 0, none⟩ v0).setCell ⟨w.heap.size, 1, none⟩ v1) :=
  ⟨(h.setCell hne _).setCell hne _, (hb.setCell (p := ⟨w.heap.size, 0, none⟩) (Nat.le_refl _) _).setCell (p := ⟨w.heap.size, 1, none⟩) (Nat.le_refl _) _⟩

set_option maxRecDepth 100000 in
set_option maxHeartbeats 4000000 in
theorem before_more (a : Option Addr) (n cap k : Nat) (w : World) (hk : n ≤ k) :
    Calls Try.prog 58 #[.slice a n cap, .int .i64 k] w fun e w' => ∃ B, e = .returned (.agg #[.slice none 0 0, .map (some B)]) ∧ Hid (∃ m D, w'.ownsMap Try.prog 3 (RV 0) B m D) ∧ Below w.heap.size w w' := by
  have hkb : decide ((k : Int) < (n : Int)) = false := by simp; omega
  have hmm := @run_makeMap Try.prog
  obtain ⟨W2, m, D, hrun, hown, hm1, hblk, hb2, hs2⟩ := before_begin w 0
  have HO : Aside (W2.ownsMap Try.prog 3 (RV 0) (w.heap.size + 1) m D) := hown
  obtain ⟨X, hX⟩ : ∃ X, X = W2.alloc (.cells #[.slice none 0 0, .map (some (w.heap.size + 1))] 87) := ⟨_, rfl⟩
  have hblk2 : (W2.alloc (.cells #[.slice none 0 0, .map (some (w.heap.size + 1))] 87)).heap[w.heap.size]? = some (.cells #[.slice none 0 0, .map none] 87 (0, 0)) := by rw [Below.heap_alloc _ _ _ (by omega)]; exact hblk
  have c0 : (W2.alloc (.cells #[.slice none 0 0, .map (some (w.heap.size + 1))] 87)).cell? ⟨w.heap.size, 0, none⟩ = some (.slice none 0 0) := by simp [World.cell?, hblk2]
  have c1 : (W2.alloc (.cells #[.slice none 0 0, .map (some (w.heap.size + 1))] 87)).cell? ⟨w.heap.size, 1, none⟩ = some (.map none) := by simp [World.cell?, hblk2]
  have f0 : (W2.alloc (.cells #[.slice none 0 0, .map (some (w.heap.size + 1))] 87)).frozen? ⟨w.heap.size, 0, none⟩ = false := by simp [World.frozen?, hblk2]
  have f1 : (W2.alloc (.cells #[.slice none 0 0, .map (some (w.heap.size + 1))] 87)).frozen? ⟨w.heap.size, 1, none⟩ = false := by simp [World.frozen?, hblk2]
  clear hown hblk hblk2 hX
  go_enter Try.func58, Try.ntmps58
  go_wp2
  refine wp_loop_rounds 1 ?_
  rw [rounds_succ]
  go_wp2
  refine bodyPost_ret (v := .agg #[.slice none 0 0, .map (some (w.heap.size + 1))]) (by simp [results, Try.results58, go_sem, c0, c1]) rfl ?_
  obtain ⟨k1, k2⟩ := before_end (v0 := .slice none 0 0) (v1 := .map (some (w.heap.size + 1))) (HO.out.alloc (.cells #[.slice none 0 0, .map (some (w.heap.size + 1))] 87)) (by omega) (hb2.alloc hb2.size _)
  exact ⟨_, rfl, ⟨m, D, k1⟩, k2⟩

set_option maxRecDepth 100000 in
set_option maxHeartbeats 8000000 in
theorem before_some (tb to n cap k : Nat) (T : List (List (List (Int × Int)))) (w : World) (hT : TvS w (some ⟨tb, to, none⟩) n cap T) (hk : k < n) (hn6 : n ≤ 6) (hlev : ∀ L ∈ T, L.length ≤ 40 ∧ ∀ c ∈ L, c ≠ [] ∧ M.chk c = 0) :
    Calls Try.prog 58 #[.slice (some ⟨tb, to, none⟩) n cap, .int .i64 k] w fun e w' => ∃ ca cn cc B, e = .returned (.agg #[.slice ca cn cc, .map (some B)]) ∧ Hid (LvS w ca cn cc (T.getD k []) ∧ cn ≤ 40 ∧ ∃ m D, w'.ownsMap Try.prog 3 (RV cn) B m D) ∧ Below w.heap.size w w' := by
  obtain ⟨b', o', e, hB, hc⟩ := hT.1.at (by omega)
  obtain ⟨rfl, rfl⟩ : tb = b' ∧ to = o' := by simpa using e
  obtain ⟨ca, cn, cc, q1, s1⟩ := hc k hk
  obtain ⟨L, hL⟩ : ∃ L, L = T.getD k [] := ⟨_, rfl⟩
  rw [← hL] at s1 ⊢
  have hLT : L ∈ T := by rw [hL]; exact getD_memT T [] k (by rw [hT.1.1]; exact hk)
  obtain ⟨y4, y5⟩ := hlev L hLT
  have hcn : cn ≤ 40 := by rw [← s1.1.1]; exact y4
  have hkb : decide ((k : Int) < (n : Int)) = true := by simp; omega
  have hki : (k : Int) < (n : Int) := by omega
  have hmm := @run_makeMap Try.prog
  obtain ⟨W2, m, D, hrun, hown, hm1, hblk, hb2, hs2⟩ := before_begin w cn
  obtain ⟨Bm, hBm⟩ : ∃ Bm, Bm = w.heap.size + 1 := ⟨_, rfl⟩
  have hq2 : (W2.alloc (.cells #[.slice none 0 0, .map (some (w.heap.size + 1))] 87)).cell? ⟨tb, to + k, none⟩ = some (.slice ca cn cc) := ((hb2.alloc hb2.size _).cell (p := ⟨tb, to + k, none⟩) hB).trans q1
  have HO : Aside (W2.ownsMap Try.prog 3 (RV cn) (w.heap.size + 1) m D) := hown
  have HS1 : Aside (LvS w ca cn cc L) := s1
  have HY5 : Aside (∀ c ∈ L, c ≠ [] ∧ M.chk c = 0) := y5
  have HLn : Aside (L.length = cn) := s1.1.1
  obtain ⟨P, hP⟩ : ∃ P, P = W2.heap.size := ⟨_, rfl⟩
  obtain ⟨X, hX⟩ : ∃ X, X = W2.alloc (.cells #[.slice ca cn cc, .map (some (w.heap.size + 1))] 87) := ⟨_, rfl⟩
  have HX : Aside (X = W2.alloc (.cells #[.slice ca cn cc, .map (some (w.heap.size + 1))] 87)) := hX
  have HP : Aside (P = W2.heap.size) := hP
  have hbX : Below w.heap.size w X := by rw [hX]; exact hb2.alloc hb2.size _
  have HXP : Aside (X.heap[P]? = some (.cells #[.slice ca cn cc, .map (some (w.heap.size + 1))] 87 (0, 0))) := by unfold Aside; rw [hX, hP]; exact World.alloc_heap_new _ _
  have HXR : Aside (X.heap[w.heap.size]? = some (.cells #[.slice none 0 0, .map none] 87 (0, 0))) := by unfold Aside; rw [hX, Below.heap_alloc _ _ _ (by omega)]; exact hblk
  have HOX : Aside (X.ownsMap Try.prog 3 (RV cn) (w.heap.size + 1) m D) := by unfold Aside; rw [hX]; exact hown.alloc _
  have hPw : w.heap.size + 1 < P := by omega
  clear hown hblk hT e hc q1 s1 hL hLT y4 y5 hlev hX hP HO
  go_enter Try.func58, Try.ntmps58
  go_wp2
  rw [← HX.out, ← HP.out]
  clear hrun hmm hq2
  go_loopg [23] cn (fun g ix ws => ∃ (i m : Nat) (D : DataW Unit), i + g = cn ∧ ix = .int .i64 i ∧ m ≤ i + 1 ∧ Aside (ws.ownsMap Try.prog 3 (RV cn) (w.heap.size + 1) m D) ∧ Aside (ws.heap[P]? = some (.cells #[.slice ca cn cc, .map (some (w.heap.size + 1))] 87 (0, 0))) ∧ Aside (ws.heap[w.heap.size]? = some (.cells #[.slice none 0 0, .map none] 87 (0, 0))) ∧ Below w.heap.size w ws)
  case atStart => exact ⟨0, m, D, by omega, rfl, by omega, HOX, HXP, HXR, hbX⟩
  case round =>
    obtain ⟨i, m', D', hig, rfl, hmi, HM, HPb, HRb, hbel⟩ := hrel
    have hPlt : P < wr.heap.size := (Array.getElem?_eq_some_iff.1 HPb.out).1
    by_cases hlt : i < cn
    · obtain ⟨cb, co, rfl⟩ : ∃ b o, ca = some ⟨b, o, none⟩ := by
        rcases HS1.out.1.2 with e | ⟨b', o', e, _⟩
        · omega
        · exact ⟨b', o', e⟩
      obtain ⟨hcB, hcells⟩ := HS1.out.1.at (by omega)
      obtain ⟨xa, xn, xc, q1, s1⟩ := hcells i hlt
      obtain ⟨x, hx⟩ : ∃ x, x = L.getD i [] := ⟨_, rfl⟩
      rw [← hx] at s1
      obtain ⟨x1, x2⟩ := HY5.out x (by rw [hx]; exact M.at_mem (by rw [HLn.out]; exact hlt))
      rcases s1.1.cases with ⟨_, e⟩ | ⟨xb, xo, rfl, hxn, hxl, hxB, hxc2⟩
      · exact absurd e x1
      have hx40 : xn ≤ 40 := by rw [← hxl]; exact ((M.chk_zero _).1 x2).1
      obtain ⟨xm, rfl⟩ : ∃ m, xn = m + 1 := ⟨xn - 1, by omega⟩
      obtain ⟨ky, hky⟩ : ∃ ky, ky = M.lastK x := ⟨_, rfl⟩
      have hkr : 0 ≤ ky ∧ ky ≤ 99 := by
        obtain ⟨r, hr, e⟩ := M.last_mem x1
        have := ((M.chk_zero x).1 x2).2.1 r hr
        rw [hky, ← e]; omega
      have hqc : wr.cell? ⟨cb, co + i, none⟩ = some (.slice (some ⟨xb, xo, none⟩) (xm + 1) xc) := (hbel.cell (p := ⟨cb, co + i, none⟩) hcB).trans q1
      have HLK : Aside (∀ W, Below wr.heap.size wr W → Calls Try.prog 83 #[.slice (some ⟨xb, xo, none⟩) (xm + 1) xc] W fun e w' => e = .returned (.int .i64 ky) ∧ Hid (Below wr.heap.size wr w')) := fun W hW => by
        rw [hky]
        refine (lastKey_any xb xo xm xc x W ((s1.below hbel).below hW).1 (by omega)).mono ?_
        rintro e w' ⟨rfl, hb⟩
        exact ⟨rfl, hW.trans (hb.mono hW.size)⟩
      have hcP : wr.cell? ⟨P, 1, none⟩ = some (.map (some (w.heap.size + 1))) := by simp [World.cell?, HPb.out]
      have hii : (i : Int) < (cn : Int) := by omega
      obtain ⟨hk0, hk1⟩ := hkr
      have hiw : IntKind.i64.wrap ((i : Int) + 1) = (i : Int) + 1 := by rw [IntKind.wrap_i64]; omega
      clear hcells q1 s1 hx x1 x2 hxl hxc2 hky
      go_wp2_with fail
      go_region_held3 (fun W => W.cell? ⟨P, 1, none⟩ = some (.map (some (w.heap.size + 1)))) (first | (simp [*]; done) | exact hAnew.out | exact hAnew5.out | go_keep) (first | (go_at_call 83; refine (HLK.out _ ((Below.refl _ _).drew)).mono ?_; rintro e w4 ⟨rfl, HL4⟩; have hAnew : Hid (w4.cell? ⟨P, 1, none⟩ = some (.map (some (w.heap.size + 1)))) := (HL4.out.cell (p := ⟨P, 1, none⟩) hPlt).trans hcP; obtain ⟨w5, D5, hrun5, HM5⟩ := map_more (i := i) (ky := ky) (HM.out.kept (grown_none HL4.out) (by simp)) (by omega) (by omega) hk1 (by omega); have hAnew5 : Hid (w5.cell? ⟨P, 1, none⟩ = some (.map (some (w.heap.size + 1)))) := (HM5.out.2.cell_of (p := ⟨P, 1, none⟩) (Nat.lt_of_lt_of_le hPlt HL4.out.size) (by simp; omega)).trans hAnew.out; have hc4 := hAnew.out))
      have HPb5 : Aside (w5.heap[P]? = some (.cells #[.slice (some ⟨cb, co, none⟩) cn cc, .map (some (w.heap.size + 1))] 87 (0, 0))) := by
        unfold Aside
        rw [HM5.out.2.block P (Nat.lt_of_lt_of_le hPlt HL4.out.size) (by simp; omega), HL4.out.block P hPlt]; exact HPb.out
      have hRlt : w.heap.size < wr.heap.size := by omega
      have HRb5 : Aside (w5.heap[w.heap.size]? = some (.cells #[.slice none 0 0, .map none] 87 (0, 0))) := by
        unfold Aside
        rw [HM5.out.2.block w.heap.size (Nat.lt_of_lt_of_le hRlt HL4.out.size) (by simp), HL4.out.block w.heap.size hRlt]; exact HRb.out
      have hb5 : Below w.heap.size w w5 := (hbel.trans (HL4.out.mono hbel.size)).grown HM5.out.2 (Nat.le_trans hbel.size HL4.out.size) (fun k e => by cases e; omega)
      have HM6 : Aside (w5.ownsMap Try.prog 3 (RV cn) (w.heap.size + 1) (m' + 1) D5) := HM5.out.1
      clear hrun5 HM5 hAnew hAnew5 hc4 HL4 HPb HRb HM hqc hcP
      go_wp2
      go_roundg (gk - 1)
      case measure => omega
      case rel => exact ⟨i + 1, m' + 1, D5, by omega, by go_num, by omega, HM6, HPb5, HRb5, hb5⟩
    · obtain rfl : i = cn := by omega
      have c0 : wr.cell? ⟨w.heap.size, 0, none⟩ = some (.slice none 0 0) := by simp [World.cell?, HRb.out]
      have c1 : wr.cell? ⟨w.heap.size, 1, none⟩ = some (.map none) := by simp [World.cell?, HRb.out]
      have f0 : wr.frozen? ⟨w.heap.size, 0, none⟩ = false := by simp [World.frozen?, HRb.out]
      have f1 : wr.frozen? ⟨w.heap.size, 1, none⟩ = false := by simp [World.frozen?, HRb.out]
      have p0 : wr.cell? ⟨P, 0, none⟩ = some (.slice ca i cc) := by simp [World.cell?, HPb.out]
      have p1 : wr.cell? ⟨P, 1, none⟩ = some (.map (some (w.heap.size + 1))) := by simp [World.cell?, HPb.out]
      go_wp2
      refine bodyPost_ret (v := .agg #[.slice ca i cc, .map (some (w.heap.size + 1))]) (by simp [results, Try.results58, go_sem, c0, c1]) rfl ?_
      obtain ⟨k1, k2⟩ := before_end (v0 := .slice ca i cc) (v1 := .map (some (w.heap.size + 1))) HM.out (by omega) hbel
      exact ⟨ca, i, cc, _, rfl, ⟨HS1.out, hcn, m', D', k1⟩, k2⟩

theorem before_any (a : Option Addr) (n cap k : Nat) (T : List (List (List (Int × Int)))) (w : World) (hT : TvS w a n cap T) (hE : treeE T = 0) :
    Calls Try.prog 58 #[.slice a n cap, .int .i64 k] w fun e w' => ∃ ca cn cc B, e = .returned (.agg #[.slice ca cn cc, .map (some B)]) ∧ Hid (Old w' ca cn cc B k (T.getD k [])) ∧ Below w.heap.size w w' := by
  obtain ⟨hch, hTb⟩ := treeE_ok hE
  obtain ⟨L1, L2, L3, L4, L5, L6⟩ := build_like (flat T) hch
  have hcut := M.build_cut (flat T) k
  rw [← hTb] at L4 L6 hcut
  by_cases hk : k < n
  · obtain ⟨tb, to, rfl, _⟩ := hT.1.at (by omega)
    refine (before_some tb to n cap k T w hT hk (by rw [← hT.1.1]; exact L6) L4).mono ?_
    rintro e w' ⟨ca, cn, cc, B, rfl, h, hb⟩
    obtain ⟨h1, h2, h3⟩ := h.out
    have hm : T.getD k [] ∈ T := getD_memT T [] k (by rw [hT.1.1]; exact hk)
    exact ⟨ca, cn, cc, B, rfl, ⟨h1.below hb, h2, hcut, fun c hc => ((L4 _ hm).2 c hc).2, h3⟩, hb⟩
  · refine (before_more a n cap k w (by omega)).mono ?_
    rintro e w' ⟨B, rfl, h, hb⟩
    have e : T.getD k [] = [] := by simp [List.getD, List.getElem?_eq_none (show T.length ≤ k by rw [hT.1.1]; omega)]
    rw [e] at hcut ⊢
    exact ⟨none, 0, 0, B, rfl, ⟨⟨⟨rfl, Or.inl rfl⟩, Nat.le_refl _, by simp [maxLen], fun _ => ⟨rfl, rfl⟩⟩, by omega, hcut, by simp, h.out⟩, hb⟩
end Go.Proofs.Ytcgpgflnihjpiac
