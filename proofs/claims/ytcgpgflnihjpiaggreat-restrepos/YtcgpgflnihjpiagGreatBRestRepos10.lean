/- Recov. -/
import Derived.Test.YtcgpgflnihjpiagGreatBRestRepos04
import Derived.Test.YtcgpgflnihjpiagGreatBRestRepos09
import Derived.Test.YtcgpgflnihjpiagGreatBRestRepos05
import Derived.Test.YtcgpgflnihjpiagGreatBRestRepos02
import Derived.Test.YtcgpgflnihjpiagGreatBRestRepos08
import Derived.Test.YtcgpgflnihjpiagGreatBRestRepos06
namespace Go.Proofs.YtcgpgflnihjpiagGreat
open Go.RowKit Go.Shelf
theorem M.okA_size {x : M.Act} (h : M.okA x) : (M.str x.one).size ≤ 9223372036854775807 := by
  rw [M.str_size]; have := h.2.1; omega
theorem RepoOwn.v2 {w : World} {base : Nat} {v : Value} {C : List M.Com} {H : List M.Hd} (h : RepoOwn w base v C H) : ∃ a cap a2 cap2, v = .agg #[.slice a C.length cap, .slice a2 H.length cap2] ∧ RepoV w a C.length cap C a2 H.length cap2 H ∧ H.length ≤ cap2 ∧ cap2 ≤ maxLen := by
  obtain ⟨x, y, e, h1, h2⟩ := h
  obtain ⟨a, cap, rfl, k1, k2, k3, k4, _⟩ := h1.cm
  obtain ⟨a2, cap2, rfl, l1, l2, l3, l4⟩ := h2.hs
  exact ⟨a, cap, a2, cap2, e, ⟨k1, k2, by unfold maxLen at k4; omega, l1, by unfold maxLen at l3; omega, l4⟩, l2, l3⟩
theorem begin_own (w : World) : Calls Tryz.prog 28 #[] w fun e w' => ∃ v, e = .returned v ∧ RepoOwn w' w.heap.size v M.begC M.begH ∧ Below w.heap.size w w' := by
  go_enter Tryz.func28, Tryz.ntmps28
  go_wp2
  refine bodyPost_ret (v := .agg #[.slice (some ⟨w.heap.size + 1, 0, none⟩) 1 1, .slice (some ⟨w.heap.size + 1 + 1, 0, none⟩) 1 1]) (by simp [results, Tryz.results28, go_sem]) rfl ?_
  refine ⟨_, rfl, ⟨_, _, rfl, ⟨[vp0], rfl, ⟨rfl, Or.inr ⟨w.heap.size + 1, 1, #[.slice none 0 0, .slice none 0 0], rfl, by omega, ?_, Nat.le_refl _, by simp [maxLen], rfl, rfl⟩⟩, fun i hi => ?_⟩, ⟨⟨rfl, Or.inr ⟨w.heap.size + 1 + 1, 1, #[.string ⟨#[109, 97, 105, 110]⟩, .int .i64 0], rfl, by omega, ?_, Nat.le_refl _, by simp [maxLen], rfl, rfl⟩⟩, fun x hx => ?_⟩⟩, (((Below.refl _ _).alloc (Nat.le_refl _) _).alloc (by simp) _).alloc (by simp; omega) _⟩
  · rw [Below.heap_alloc _ _ _ (by simp)]
    have := heap_alloc_new (w.alloc (.cells #[.slice (some ⟨w.heap.size + 1, 0, none⟩) 1 1, .slice (some ⟨w.heap.size + 1 + 1, 0, none⟩) 1 1] 35)) (.cells #[.slice none 0 0, .slice none 0 0] 54)
    simpa using this
  · obtain rfl : i = 0 := by simp [M.begC] at hi; omega
    exact ⟨World.ownsRow_nil _ _ _ _, World.ownsRow_nil _ _ _ _, by simp [M.begC], by simp [M.begC]⟩
  · have := heap_alloc_new ((w.alloc (.cells #[.slice (some ⟨w.heap.size + 1, 0, none⟩) 1 1, .slice (some ⟨w.heap.size + 1 + 1, 0, none⟩) 1 1] 35)).alloc (.cells #[.slice none 0 0, .slice none 0 0] 54)) (.cells #[.string ⟨#[109, 97, 105, 110]⟩, .int .i64 0] 58)
    simpa using this
  · obtain rfl : x = (⟨#[109, 97, 105, 110]⟩, 0) := by simpa [M.begH] using hx
    decide
structure RBox (w0 : World) (D : Nat) (C : List M.Com) (H : List M.Hd) (w : World) : Prop where
  bel : Below w0.heap.size w0 w
  v : ∃ x y, w.heap[D]? = some (.cells #[x, y] 35 (0, 0)) ∧ RepoOwn w w0.heap.size (.agg #[x, y]) C H
theorem RBox.lt {w0 w : World} {D : Nat} {C : List M.Com} {H : List M.Hd} (h : RBox w0 D C H w) : D < w.heap.size := by
  obtain ⟨_, x, y, h1, _⟩ := h
  exact (Array.getElem?_eq_some_iff.1 h1).1
theorem RBox.later {w0 w w' : World} {D : Nat} {C : List M.Com} {H : List M.Hd} (h : RBox w0 D C H w) (hb : Below w.heap.size w w') : RBox w0 D C H w' := by
  have hlt := h.lt
  obtain ⟨h1, x, y, h2, h3⟩ := h
  exact ⟨h1.trans (hb.mono h1.size), x, y, (hb.block D hlt).trans h2, h3.later hb⟩
set_option maxRecDepth 100000 in
set_option maxHeartbeats 8000000 in
theorem recover_any (l : M.By) (w : World) (hl : l.length ≤ 9223372036854775807) :
    Calls Tryz.prog 9 #[.string (M.str l)] w fun e w' => Below w.heap.size w w' ∧
      ((4096 < l.length ∧ e = .returned (.tuple #[.agg #[.slice none 0 0, .slice none 0 0], .int .i64 0, .int .i64 2])) ∨
       (l.length ≤ 4096 ∧ ∃ v, e = .returned (.tuple #[v, .int .i64 ((M.rAs 60 l).1.length : Int), .int .i64 0]) ∧ RepoOwn w' w.heap.size v (M.done (M.rAs 60 l).1).1 (M.done (M.rAs 60 l).1).2)) := by
  obtain ⟨R, hR⟩ : ∃ R, R = w.heap.size := ⟨_, rfl⟩
  obtain ⟨W, hW⟩ : ∃ W, W = w.alloc (.cells #[.slice none 0 0, .slice none 0 0] 35) := ⟨_, rfl⟩
  have hb : Below w.heap.size w W := by rw [hW]; exact (Below.refl _ _).alloc (Nat.le_refl _) _
  have q0 : W.heap[R]? = some (.cells #[.slice none 0 0, .slice none 0 0] 35 (0, 0)) := by rw [hW, hR]; exact heap_alloc_new _ _
  have HQ0 : Hid (W.heap[R]? = some (.cells #[.slice none 0 0, .slice none 0 0] 35 (0, 0))) := q0
  have K : Hid (Calls Tryz.prog 13 #[.string (M.str l)] W fun e w' => Below W.heap.size W w' ∧
      ((4096 < l.length ∧ e = .returned (.tuple #[.slice none 0 0, .int .i64 0, .int .i64 2])) ∨
       (l.length ≤ 4096 ∧ ∃ v, e = .returned (.tuple #[v, .int .i64 ((l.length - (M.rAs 60 l).2.length : Nat) : Int), .int .i64 0]) ∧ OwnA w' W.heap.size v (M.rAs 60 l).1))) := replay_any l W hl
  obtain ⟨s, hs⟩ : ∃ s, s = M.str l := ⟨_, rfl⟩
  rw [← hs] at K ⊢
  have HW : Hid (W = w.alloc (.cells #[.slice none 0 0, .slice none 0 0] 35)) := hW
  have HR : Aside (R = w.heap.size) := hR
  clear hW hR q0 hs
  go_enter Tryz.func9, Tryz.ntmps9
  go_wp2_with fail
  rw [← HW.out, ← HR.out]
  refine K.out.mono ?_
  rintro e w1 ⟨b1, ⟨h1, rfl⟩ | ⟨h1, v, rfl, oa⟩⟩
  · have hb1 : Below w.heap.size w w1 := hb.trans (b1.mono hb.size)
    have r1 : w1.heap[R]? = some (.cells #[.slice none 0 0, .slice none 0 0] 35 (0, 0)) := (b1.block R (Array.getElem?_eq_some_iff.1 HQ0.out).1).trans HQ0.out
    obtain ⟨g1, g2, g3⟩ := res_set r1 (.slice none 0 0) (.slice none 0 0)
    obtain ⟨X, hX⟩ : ∃ X, X = (w1.setCell ⟨R, 0, none⟩ (.slice none 0 0)).setCell ⟨R, 1, none⟩ (.slice none 0 0) := ⟨_, rfl⟩
    rw [← hX] at g1
    have bX : Below w.heap.size w X := by rw [hX]; exact (hb1.setCell (p := ⟨R, 0, none⟩) (by show _ ≤ R; have := HR.out; omega) _).setCell (p := ⟨R, 1, none⟩) (by show _ ≤ R; have := HR.out; omega) _
    have HX9 : Hid (X = (w1.setCell ⟨R, 0, none⟩ (.slice none 0 0)).setCell ⟨R, 1, none⟩ (.slice none 0 0)) := hX
    have HX0 : Aside (X.cell? ⟨R, 0, none⟩ = some (.slice none 0 0)) := by unfold Aside; rw [cell_of_row _ _ _ _ _ _ g1]; rfl
    have HX1 : Aside (X.cell? ⟨R, 1, none⟩ = some (.slice none 0 0)) := by unfold Aside; rw [cell_of_row _ _ _ _ _ _ g1]; rfl
    have x0 : w1.cell? ⟨R, 0, none⟩ = some (.slice none 0 0) := by rw [cell_of_row _ _ _ _ _ _ r1]; rfl
    have x1 : w1.cell? ⟨R, 1, none⟩ = some (.slice none 0 0) := by rw [cell_of_row _ _ _ _ _ _ r1]; rfl
    have f0 : w1.frozen? ⟨R, 0, none⟩ = false := frozen_of_row _ _ _ _ _ r1
    have f1 : w1.frozen? ⟨R, 1, none⟩ = false := frozen_of_row _ _ _ _ _ r1
    have HL : Hid (4096 < l.length) := h1
    clear g1 g2 g3 hX r1 h1 K
    go_wp2
    rw [← HX9.out]
    have y0 := HX0.out
    have y1 := HX1.out
    refine bodyPost_ret (v := .tuple #[.agg #[.slice none 0 0, .slice none 0 0], .int .i64 0, .int .i64 2]) (by simp [results, Tryz.results9, go_sem, y0, y1]) rfl ?_
    exact ⟨bX, Or.inl ⟨HL.out, rfl⟩⟩
  · obtain ⟨xs, hxs⟩ : ∃ xs, xs = (M.rAs 60 l).1 := ⟨_, rfl⟩
    have hok := M.rAs_ok 60 l
    have hlen := (M.rAs_len 60 l).1
    rw [← hxs] at hok hlen oa
    have HXs : Aside (xs = (M.rAs 60 l).1) := hxs
    obtain ⟨va, vc, rfl, hac, hvl, hvm⟩ := oa.ac
    obtain ⟨n, hn⟩ : ∃ n, n = xs.length := ⟨_, rfl⟩
    rw [← hn] at hac hlen ⊢
    have HAc : Hid (Ac w1 va n xs) := hac
    have HOk : Hid (∀ x ∈ xs, M.okA x) := hok
    have HN : Aside (n = xs.length) := hn
    have HL : Hid (l.length ≤ 4096) := h1
    obtain ⟨bt, hbt⟩ : ∃ bt, bt = l.length - (M.rAs 60 l).2.length := ⟨_, rfl⟩
    rw [← hbt]
    have KB : Hid (Calls Tryz.prog 28 #[] w1 fun e w' => ∃ v, e = .returned v ∧ RepoOwn w' w1.heap.size v M.begC M.begH ∧ Below w1.heap.size w1 w') := begin_own w1
    clear oa hac hok hn hvl hvm h1 K hxs hbt
    go_wp2_with fail
    refine KB.out.mono ?_
    rintro e w2 ⟨v2, rfl, o2, b2⟩
    have hb2 : Below W.heap.size W w2 := b1.trans (b2.mono b1.size)
    have o2w : RepoOwn w2 w.heap.size v2 M.begC M.begH := o2.lower (Nat.le_trans hb.size b1.size)
    obtain ⟨x2, y2, rfl, k2, h2⟩ := o2w
    obtain ⟨xa, xc, rfl, _⟩ := k2.cm
    obtain ⟨ya, yc, rfl, _⟩ := h2.hs
    obtain ⟨D, hD⟩ : ∃ D, D = w2.heap.size := ⟨_, rfl⟩
    obtain ⟨W3, hW3⟩ : ∃ W3, W3 = w2.alloc (.cells #[.slice xa M.begC.length xc, .slice ya M.begH.length yc] 35) := ⟨_, rfl⟩
    have b3 : Below w2.heap.size w2 W3 := by rw [hW3]; exact (Below.refl _ _).alloc (Nat.le_refl _) _
    have hb3 : Below W.heap.size W W3 := hb2.trans (b3.mono hb2.size)
    have B3 : RBox w D M.begC M.begH W3 := ⟨hb.trans (hb3.mono hb.size), _, _, by rw [hW3, hD]; exact heap_alloc_new _ _, ⟨_, _, rfl, k2.later b3, h2.later b3⟩⟩
    have HB3 : Aside (RBox w D M.begC M.begH W3) := B3
    have HW3 : Hid (W3 = w2.alloc (.cells #[.slice xa M.begC.length xc, .slice ya M.begH.length yc] 35)) := hW3
    have HD : Aside (D = w2.heap.size) := hD
    have HAc3 : Hid (Ac W3 va n xs) := (HAc.out.below b2).below b3
    have r3 : W3.heap[R]? = some (.cells #[.slice none 0 0, .slice none 0 0] 35 (0, 0)) := (hb3.block R (Array.getElem?_eq_some_iff.1 HQ0.out).1).trans HQ0.out
    have HR3 : Hid (W3.heap[R]? = some (.cells #[.slice none 0 0, .slice none 0 0] 35 (0, 0))) := r3
    have hRD : R < D := by rw [hD]; exact Nat.lt_of_lt_of_le (Array.getElem?_eq_some_iff.1 HQ0.out).1 (Nat.le_trans b1.size b2.size)
    have HB13 : Hid (Below w1.heap.size w1 W3) := b2.trans (b3.mono b2.size)
    have HW1D : Hid (w1.heap.size ≤ D) := by unfold Hid; rw [hD]; exact b2.size
    have HBW1 : Hid (Below w.heap.size w w1) := hb.trans (b1.mono hb.size)
    clear o2 k2 h2 hW3 hD B3 r3 KB b3 hb3 hb2 b2
    go_wp2_with fail
    rw [← HW3.out, ← HD.out]
    go_loopg [26] n (fun g i wr => ∃ k : Nat, k + g = n ∧ i = .int .i64 k ∧ Aside (RBox w D (M.done (xs.take k)).1 (M.done (xs.take k)).2 wr) ∧ (∀ j, j < W3.heap.size → j ≠ D → wr.heap[j]? = W3.heap[j]?) ∧ W3.heap.size ≤ wr.heap.size)
    case atStart => exact ⟨0, by omega, rfl, HB3, fun _ _ _ => rfl, Nat.le_refl _⟩
    case round =>
      obtain ⟨k, hk, rfl, HBk, hkeep, hsz⟩ := hrel
      have HKp : Hid (∀ j, j < W3.heap.size → j ≠ D → wr.heap[j]? = W3.heap[j]?) := hkeep
      clear hkeep
      obtain ⟨Ck, hCk⟩ : ∃ Ck, Ck = (M.done (xs.take k)).1 := ⟨_, rfl⟩
      obtain ⟨Hk, hHk⟩ : ∃ Hk, Hk = (M.done (xs.take k)).2 := ⟨_, rfl⟩
      rw [← hCk, ← hHk] at HBk
      have hDl := HBk.out.lt
      have hbel := HBk.out.bel
      obtain ⟨x4, y4, blk4, o4⟩ := HBk.out.v
      have o4' := o4
      obtain ⟨xa4, xc4, ya4, yc4, e4, V4, hc4, hm4⟩ := o4'.v2
      obtain ⟨rfl, rfl⟩ : x4 = .slice xa4 Ck.length xc4 ∧ y4 = .slice ya4 Hk.length yc4 := by simp at e4; exact e4
      obtain ⟨m, hm⟩ : ∃ m, m = Ck.length := ⟨_, rfl⟩
      obtain ⟨mh, hmh⟩ : ∃ mh, mh = Hk.length := ⟨_, rfl⟩
      rw [← hm, ← hmh] at blk4 V4
      have d0 : wr.cell? ⟨D, 0, none⟩ = some (.slice xa4 m xc4) := by rw [cell_of_row _ _ _ _ _ _ blk4]; rfl
      have d1 : wr.cell? ⟨D, 1, none⟩ = some (.slice ya4 mh yc4) := by rw [cell_of_row _ _ _ _ _ _ blk4]; rfl
      by_cases hkn : k < n
      · have hki : (k : Int) < (n : Int) := by omega
        have hkx : k < xs.length := by rw [← HN.out]; exact hkn
        have B1 : Below w1.heap.size w1 wr := ⟨hbel.os.trans HBW1.out.os.symm, hbel.tape.trans HBW1.out.tape.symm, hbel.output.trans HBW1.out.output.symm, Nat.le_trans HB13.out.size hsz, fun j hj => (HKp.out j (Nat.lt_of_lt_of_le hj HB13.out.size) (by have := HW1D.out; omega)).trans (HB13.out.block j hj)⟩
        obtain ⟨b, off, rfl, hbl, ca, cn, cc, t0, t1, t2, t3, trc, tcn⟩ : ∃ b off, va = some ⟨b, off, none⟩ ∧ b < wr.heap.size ∧ ∃ ca cn cc, wr.cell? ⟨b, off + k * 4, none⟩ = some (.int .i64 (xs.getD k act0).kind) ∧ wr.cell? ⟨b, off + k * 4 + 1, none⟩ = some (.string (M.str (xs.getD k act0).one)) ∧ wr.cell? ⟨b, off + k * 4 + 2, none⟩ = some (.string (M.str (xs.getD k act0).two)) ∧ wr.cell? ⟨b, off + k * 4 + 3, none⟩ = some (.slice ca cn cc) ∧ Rc wr ca cn (xs.getD k act0).chs ∧ cn ≤ 9223372036854775807 := by
          obtain ⟨_, h0 | ⟨b, off, e, hB, hc⟩⟩ := HAc.out.below B1
          · omega
          · exact ⟨b, off, e, hB, hc k hkn⟩
        obtain ⟨x, hx⟩ : ∃ x, x = xs.getD k act0 := ⟨_, rfl⟩
        rw [← hx] at t0 t1 t2 trc
        have hxk : xs[k] = x := by rw [hx]; simp [List.getD, hkx]
        have hokx : M.okA x := by rw [← hxk]; exact HOk.out _ (List.getElem_mem hkx)
        have hdn := M.done_take xs k hkx
        rw [hxk, ← hCk, ← hHk] at hdn
        have HDn : Hid (M.done (xs.take (k + 1)) = if M.doE Ck Hk x = 0 then (M.doC Ck Hk x, M.doH Ck Hk x) else M.done (xs.take k)) := hdn
        have HDk : Hid ((M.done (xs.take k)).1 = Ck ∧ (M.done (xs.take k)).2 = Hk) := ⟨hCk.symm, hHk.symm⟩
        obtain ⟨W5, hW5⟩ : ∃ W5, W5 = wr.alloc (.cells #[.int .i64 x.kind, .string (M.str x.one), .string (M.str x.two), .slice ca cn cc] 30) := ⟨_, rfl⟩
        have b5 : Below wr.heap.size wr W5 := by rw [hW5]; exact (Below.refl _ _).alloc (Nat.le_refl _) _
        obtain ⟨E, hE⟩ : ∃ E, E = M.doE Ck Hk x := ⟨_, rfl⟩
        have KD : Hid (Calls Tryz.prog 14 #[.agg #[.slice xa4 m xc4, .slice ya4 mh yc4], actV x ca cn cc] W5 fun e w' => ∃ v, e = .returned (.tuple #[v, .int .i64 E]) ∧ RepoOwn w' W5.heap.size v (M.doC Ck Hk x) (M.doH Ck Hk x) ∧ Below W5.heap.size W5 w') := by rw [hE]; exact do_any xa4 m xc4 Ck ya4 mh yc4 Hk x ca cn cc W5 (V4.later b5) (trc.below b5 (Nat.le_refl _)) tcn (M.okA_size hokx)
        unfold actV at KD
        obtain ⟨kd, hkd⟩ : ∃ kd, kd = x.kind := ⟨_, rfl⟩
        obtain ⟨so, hso⟩ : ∃ so, so = M.str x.one := ⟨_, rfl⟩
        obtain ⟨st, hst⟩ : ∃ st, st = M.str x.two := ⟨_, rfl⟩
        rw [← hkd, ← hso, ← hst] at KD hW5
        rw [← hkd] at t0
        rw [← hso] at t1
        rw [← hst] at t2
        have HE : Aside (E = M.doE Ck Hk x) := hE
        have HB5 : Aside (RBox w D Ck Hk W5) := HBk.out.later b5
        have e0 : W5.cell? ⟨D, 0, none⟩ = some (.slice xa4 m xc4) := (b5.cell (p := ⟨D, 0, none⟩) hDl).trans d0
        have e1 : W5.cell? ⟨D, 1, none⟩ = some (.slice ya4 mh yc4) := (b5.cell (p := ⟨D, 1, none⟩) hDl).trans d1
        have HK5 : Hid (∀ j, j < W3.heap.size → j ≠ D → W5.heap[j]? = W3.heap[j]?) := fun j h1 h2 => (b5.block j (Nat.lt_of_lt_of_le h1 hsz)).trans (HKp.out j h1 h2)
        have HW5 : Hid (W5 = wr.alloc (.cells #[.int .i64 kd, .string so, .string st, .slice ca cn cc] 30)) := hW5
        have hs5 : W3.heap.size ≤ W5.heap.size := Nat.le_trans hsz b5.size
        rw [hW5] at e0 e1
        have HBlk5 : Hid (W5.heap[D]? = some (.cells #[.slice xa4 m xc4, .slice ya4 mh yc4] 35 (0, 0))) := (b5.block D hDl).trans blk4
        clear hx hxk hokx hdn hCk hHk hkd hso hst hE hW5 b5 V4 hc4 hm4 hm hmh e4 blk4 o4 trc tcn B1
        go_wp2_with fail
        rw [← HW5.out]
        refine KD.out.mono ?_
        rintro e w6 ⟨v6, rfl, o6, b6⟩
        have hs6 : W3.heap.size ≤ w6.heap.size := Nat.le_trans hs5 b6.size
        have hWw : w.heap.size ≤ W5.heap.size := HB5.out.bel.size
        obtain ⟨q1, q2, rfl, ok6, oh6⟩ := o6
        obtain ⟨xa6, xc6, rfl, _⟩ := ok6.cm
        obtain ⟨ya6, yc6, rfl, _⟩ := oh6.hs
        obtain ⟨m6, hm6⟩ : ∃ m6, m6 = (M.doC Ck Hk x).length := ⟨_, rfl⟩
        obtain ⟨n6, hn6⟩ : ∃ n6, n6 = (M.doH Ck Hk x).length := ⟨_, rfl⟩
        rw [← hm6, ← hn6]
        rw [← hm6] at ok6
        rw [← hn6] at oh6
        obtain ⟨W7, hW7⟩ : ∃ W7, W7 = w6.alloc (.cells #[.slice xa6 m6 xc6, .slice ya6 n6 yc6] 35) := ⟨_, rfl⟩
        have b7 : Below w6.heap.size w6 W7 := by rw [hW7]; exact (Below.refl _ _).alloc (Nat.le_refl _) _
        have q57 : Below W5.heap.size W5 W7 := b6.trans (b7.mono b6.size)
        have HB7 : Aside (RBox w D Ck Hk W7) := HB5.out.later q57
        have hD5 : D < W5.heap.size := HB5.out.lt
        have blk7 : W7.heap[D]? = some (.cells #[.slice xa4 m xc4, .slice ya4 mh yc4] 35 (0, 0)) := (q57.block D hD5).trans HBlk5.out
        have HK7 : Hid (∀ j, j < W3.heap.size → j ≠ D → W7.heap[j]? = W3.heap[j]?) := fun j h1 h2 => (q57.block j (Nat.lt_of_lt_of_le h1 hs5)).trans (HK5.out j h1 h2)
        have hs7 : W3.heap.size ≤ W7.heap.size := Nat.le_trans hs6 b7.size
        have HW7 : Hid (W7 = w6.alloc (.cells #[.slice xa6 m6 xc6, .slice ya6 n6 yc6] 35)) := hW7
        by_cases hE0 : E = 0
        · subst hE0
          have ok7 := (ok6.later b7).lower hWw
          have oh7 := (oh6.later b7).lower hWw
          have HRO := repoOwn_set blk7 ok7 oh7
          obtain ⟨X, hX⟩ : ∃ X, X = (W7.setCell ⟨D, 0, none⟩ (.slice xa6 m6 xc6)).setCell ⟨D, 1, none⟩ (.slice ya6 n6 yc6) := ⟨_, rfl⟩
          obtain ⟨g1, g2, g3⟩ := res_set blk7 (.slice xa6 m6 xc6) (.slice ya6 n6 yc6)
          rw [← hX] at HRO g1 g2 g3
          have HBX : Aside (RBox w D (M.done (xs.take (k + 1))).1 (M.done (xs.take (k + 1))).2 X) := by
            unfold Aside
            rw [HDn.out, if_pos HE.out.symm]
            refine ⟨?_, _, _, g1, HRO⟩
            rw [hX]
            have hwD : w.heap.size ≤ D := by have := HBW1.out.size; have := HW1D.out; omega
            exact (HB7.out.bel.setCell (p := ⟨D, 0, none⟩) hwD _).setCell (p := ⟨D, 1, none⟩) hwD _
          have HKX : Hid (∀ j, j < W3.heap.size → j ≠ D → X.heap[j]? = W3.heap[j]?) := fun j h1 h2 => (g2 j h2).trans (HK7.out j h1 h2)
          have hsX : W3.heap.size ≤ X.heap.size := by rw [g3]; exact hs7
          have HX9 : Hid (X = (W7.setCell ⟨D, 0, none⟩ (.slice xa6 m6 xc6)).setCell ⟨D, 1, none⟩ (.slice ya6 n6 yc6)) := hX
          have x0 : W7.cell? ⟨D, 0, none⟩ = some (.slice xa4 m xc4) := by rw [cell_of_row _ _ _ _ _ _ blk7]; rfl
          have x1 : W7.cell? ⟨D, 1, none⟩ = some (.slice ya4 mh yc4) := by rw [cell_of_row _ _ _ _ _ _ blk7]; rfl
          have f0 : W7.frozen? ⟨D, 0, none⟩ = false := frozen_of_row _ _ _ _ _ blk7
          have f1 : W7.frozen? ⟨D, 1, none⟩ = false := frozen_of_row _ _ _ _ _ blk7
          rw [hW7] at x0 x1 f0 f1
          clear ok6 oh6 ok7 oh7 HRO hX g1 g2 g3 hW7 blk7 b7 b6 q57 hm6 hn6 d0 d1 e0 e1 KD t0 t1 t2 t3
          go_wp2
          rw [← HW7.out, ← HX9.out]
          go_roundg (gk - 1)
          case measure => omega
          case rel => exact ⟨k + 1, by omega, by go_num, HBX, HKX.out, hsX⟩
        · have hEb : (E == 0) = false := by simp [hE0]
          have HBX : Aside (RBox w D (M.done (xs.take (k + 1))).1 (M.done (xs.take (k + 1))).2 W7) := by
            unfold Aside
            rw [HDn.out, if_neg (by rw [← HE.out]; exact hE0), HDk.out.1, HDk.out.2]
            exact HB7.out
          clear ok6 oh6 hW7 blk7 b7 b6 q57 hm6 hn6 d0 d1 e0 e1 KD hE0 t0 t1 t2 t3
          go_wp2
          rw [← HW7.out]
          go_roundg (gk - 1)
          case measure => omega
          case rel => exact ⟨k + 1, by omega, by go_num, HBX, HK7.out, hs7⟩
      · obtain rfl : k = n := by omega
        have hkk2 : decide ((k : Int) < (k : Int)) = false := by simp
        have eT : xs.take k = xs := List.take_of_length_le (by rw [HN.out]; exact Nat.le_refl _)
        rw [eT] at hCk hHk
        have r9 : wr.heap[R]? = some (.cells #[.slice none 0 0, .slice none 0 0] 35 (0, 0)) := (HKp.out R (Array.getElem?_eq_some_iff.1 HR3.out).1 (by omega)).trans HR3.out
        obtain ⟨q1, q2, hqq, ok4, oh4⟩ := o4
        rw [← hm, ← hmh] at hqq
        obtain ⟨rfl, rfl⟩ : q1 = .slice xa4 m xc4 ∧ q2 = .slice ya4 mh yc4 := by simp at hqq; exact ⟨hqq.1.symm, hqq.2.symm⟩
        have HRO : Aside (RepoOwn ((wr.setCell ⟨R, 0, none⟩ (.slice xa4 m xc4)).setCell ⟨R, 1, none⟩ (.slice ya4 mh yc4)) w.heap.size (.agg #[.slice xa4 m xc4, .slice ya4 mh yc4]) (M.done (M.rAs 60 l).1).1 (M.done (M.rAs 60 l).1).2) := by unfold Aside; rw [← HXs.out, ← hCk, ← hHk]; exact repoOwn_set r9 ok4 oh4
        obtain ⟨g1, g2, g3⟩ := res_set r9 (.slice xa4 m xc4) (.slice ya4 mh yc4)
        obtain ⟨X, hX⟩ : ∃ X, X = (wr.setCell ⟨R, 0, none⟩ (.slice xa4 m xc4)).setCell ⟨R, 1, none⟩ (.slice ya4 mh yc4) := ⟨_, rfl⟩
        rw [← hX] at g1 HRO
        have bX : Below w.heap.size w X := by rw [hX]; exact (hbel.setCell (p := ⟨R, 0, none⟩) (by show _ ≤ R; have := HR.out; omega) _).setCell (p := ⟨R, 1, none⟩) (by show _ ≤ R; have := HR.out; omega) _
        have HX9 : Hid (X = (wr.setCell ⟨R, 0, none⟩ (.slice xa4 m xc4)).setCell ⟨R, 1, none⟩ (.slice ya4 mh yc4)) := hX
        have HX0 : Aside (X.cell? ⟨R, 0, none⟩ = some (.slice xa4 m xc4)) := by unfold Aside; rw [cell_of_row _ _ _ _ _ _ g1]; rfl
        have HX1 : Aside (X.cell? ⟨R, 1, none⟩ = some (.slice ya4 mh yc4)) := by unfold Aside; rw [cell_of_row _ _ _ _ _ _ g1]; rfl
        have x0 : wr.cell? ⟨R, 0, none⟩ = some (.slice none 0 0) := by rw [cell_of_row _ _ _ _ _ _ r9]; rfl
        have x1 : wr.cell? ⟨R, 1, none⟩ = some (.slice none 0 0) := by rw [cell_of_row _ _ _ _ _ _ r9]; rfl
        have f0 : wr.frozen? ⟨R, 0, none⟩ = false := frozen_of_row _ _ _ _ _ r9
        have f1 : wr.frozen? ⟨R, 1, none⟩ = false := frozen_of_row _ _ _ _ _ r9
        have HNn : Hid ((M.rAs 60 l).1.length = k) := by unfold Hid; rw [← HXs.out, HN.out]
        clear g1 g2 g3 hX r9 blk4 ok4 oh4 hqq V4 hc4 hm4 hCk hHk hm hmh eT e4
        go_wp2
        rw [← HX9.out]
        have y0 := HX0.out
        have y1 := HX1.out
        refine bodyPost_ret (v := .tuple #[.agg #[.slice xa4 m xc4, .slice ya4 mh yc4], .int .i64 (k : Int), .int .i64 0]) (by simp [results, Tryz.results9, go_sem, y0, y1]) rfl ?_
        exact ⟨bX, Or.inr ⟨HL.out, _, by rw [HNn.out], HRO.out⟩⟩
end Go.Proofs.YtcgpgflnihjpiagGreat
namespace Go.Proofs.YtcgpgflnihjpiagGreat
open Go.RowKit
def sMain : ByteArray := ⟨#[109, 97, 105, 110]⟩
def sSide : ByteArray := ⟨#[115, 105, 100, 101]⟩
def shopH : List M.Hd := [(sMain, 3), (sSide, 1)]
theorem Rd.same {w w' : World} {b n : Nat} {l : List (Int × Int)} (h : Rd w (some ⟨b, 0, none⟩) n l) (hb : w'.heap[b]? = w.heap[b]?) (hs : w.heap.size ≤ w'.heap.size) : Rd w' (some ⟨b, 0, none⟩) n l := by
  obtain ⟨h1, h2⟩ := h
  refine ⟨h1, ?_⟩
  rcases h2 with h2 | ⟨b', off', ha, hlt, hc⟩
  · exact Or.inl h2
  · cases ha
    refine Or.inr ⟨b, 0, rfl, by omega, fun i hi => ?_⟩
    rw [World.cell?_of_block (a := ⟨b, 0 + i * 2, none⟩) hb, World.cell?_of_block (a := ⟨b, 0 + i * 2 + 1, none⟩) hb]
    exact hc i hi
theorem Ri.same {w w' : World} {b n : Nat} {l : List Int} (h : Ri w (some ⟨b, 0, none⟩) n l) (hb : w'.heap[b]? = w.heap[b]?) (hs : w.heap.size ≤ w'.heap.size) : Ri w' (some ⟨b, 0, none⟩) n l := by
  obtain ⟨h1, h2⟩ := h
  refine ⟨h1, ?_⟩
  rcases h2 with h2 | ⟨b', off', ha, hlt, hc⟩
  · exact Or.inl h2
  · cases ha
    refine Or.inr ⟨b, 0, rfl, by omega, fun i hi => ?_⟩
    rw [World.cell?_of_block (a := ⟨b, 0 + i, none⟩) hb]
    exact hc i hi
def CrossFrom (w : World) (lo g : Nat) : Prop := ∃ f b1 b2 b3 b4, w.heap[g]? = some (.cells (crossC f b1 b2 b3 b4) 54 (0, 0)) ∧ (lo ≤ f ∧ f < g) ∧ (lo ≤ b1 ∧ b1 < g) ∧ (lo ≤ b2 ∧ b2 < g) ∧ (lo ≤ b3 ∧ b3 < g) ∧ (lo ≤ b4 ∧ b4 < g) ∧
  Rd w (some ⟨f, 0, none⟩) 3 dfew ∧ Ri w (some ⟨b1, 0, none⟩) 1 [0] ∧ Ri w (some ⟨b2, 0, none⟩) 1 [0] ∧ Ri w (some ⟨b3, 0, none⟩) 2 [1, 2] ∧ Ri w (some ⟨b4, 0, none⟩) 2 [1, 2]
theorem CrossFrom.keep {w w' : World} {lo g : Nat} (h : CrossFrom w lo g) (hk : ∀ k, lo ≤ k → k ≤ g → w'.heap[k]? = w.heap[k]?) (hs : w.heap.size ≤ w'.heap.size) : CrossFrom w' lo g := by
  obtain ⟨f, b1, b2, b3, b4, h1, k1, k2, k3, k4, k5, r1, r2, r3, r4, r5⟩ := h
  exact ⟨f, b1, b2, b3, b4, (hk g (by omega) (Nat.le_refl _)).trans h1, k1, k2, k3, k4, k5, r1.same (hk f (by omega) (by omega)) hs, r2.same (hk b1 (by omega) (by omega)) hs, r3.same (hk b2 (by omega) (by omega)) hs, r4.same (hk b3 (by omega) (by omega)) hs, r5.same (hk b4 (by omega) (by omega)) hs⟩
theorem CrossFrom.at {w : World} {lo g : Nat} (h : CrossFrom w lo g) : CrossAt w g := by
  obtain ⟨f, b1, b2, b3, b4, h1, k1, k2, k3, k4, k5, r⟩ := h
  exact ⟨f, b1, b2, b3, b4, h1, k1.2, k2.2, k3.2, k4.2, k5.2, r⟩
theorem crossF_any (w : World) : Calls Tryz.prog 56 #[] w fun e w' => ∃ g, e = .returned (.slice (some ⟨g, 0, none⟩) 6 6) ∧ w.heap.size ≤ g ∧ CrossFrom w' w.heap.size g ∧ Below w.heap.size w w' := by
  go_enter Tryz.func56, Tryz.ntmps56
  go_wp2_with fail
  refine (dfew_any _).mono ?_
  rintro e w1 ⟨rfl, r, hb⟩
  have R : Hid (Rd w1 (some ⟨w.heap.size, 0, none⟩) 3 dfew) := r
  have hs := hb.size
  have hlt : w.heap.size < w1.heap.size := by
    rcases r.2 with h | ⟨b, off, e, hl, _⟩
    · omega
    · cases e; exact hl
  clear r
  go_wp2
  go_ret
  have hbW := ((((hb.alloc hs (.cells #[.int .i64 0] 3)).alloc (by simp; omega) (.cells #[.int .i64 0] 3)).alloc (by simp; omega) (.cells #[.int .i64 1, .int .i64 2] 3)).alloc (by simp; omega) (.cells #[.int .i64 1, .int .i64 2] 3)).alloc (by simp; omega) (.cells (crossC w.heap.size w1.heap.size (w1.heap.size + 1) (w1.heap.size + 1 + 1) (w1.heap.size + 1 + 1 + 1)) 54)
  have hbR := (((((Below.refl w1.heap.size w1).alloc (Nat.le_refl _) (.cells #[.int .i64 0] 3)).alloc (by simp) (.cells #[.int .i64 0] 3)).alloc (by simp; omega) (.cells #[.int .i64 1, .int .i64 2] 3)).alloc (by simp; omega) (.cells #[.int .i64 1, .int .i64 2] 3)).alloc (by simp; omega) (.cells (crossC w.heap.size w1.heap.size (w1.heap.size + 1) (w1.heap.size + 1 + 1) (w1.heap.size + 1 + 1 + 1)) 54)
  refine ⟨w1.heap.size + 1 + 1 + 1 + 1, rfl, by omega, ⟨w.heap.size, w1.heap.size, w1.heap.size + 1, w1.heap.size + 1 + 1, w1.heap.size + 1 + 1 + 1, ?_, ⟨by omega, by omega⟩, ⟨by omega, by omega⟩, ⟨by omega, by omega⟩, ⟨by omega, by omega⟩, ⟨by omega, by omega⟩, R.out.below hbR (Nat.le_refl _), ⟨rfl, Or.inr ⟨_, 0, rfl, by simp <;> omega, fun i hi => ?_⟩⟩, ⟨rfl, Or.inr ⟨_, 0, rfl, by simp <;> omega, fun i hi => ?_⟩⟩, ⟨rfl, Or.inr ⟨_, 0, rfl, by simp <;> omega, fun i hi => ?_⟩⟩, ⟨rfl, Or.inr ⟨_, 0, rfl, by simp <;> omega, fun i hi => ?_⟩⟩⟩, hbW⟩
  · rw [show w1.heap.size + 1 + 1 + 1 + 1 = ((((w1.alloc (.cells #[.int .i64 0] 3)).alloc (.cells #[.int .i64 0] 3)).alloc (.cells #[.int .i64 1, .int .i64 2] 3)).alloc (.cells #[.int .i64 1, .int .i64 2] 3)).heap.size by simp]
    exact heap_alloc_new _ _
  · obtain rfl : i = 0 := by omega
    simp [go_sem]
  · obtain rfl : i = 0 := by omega
    simp [go_sem]
  · match i, hi with
    | 0, _ => simp [go_sem]
    | 1, _ => simp [go_sem]
  · match i, hi with
    | 0, _ => simp [go_sem]
    | 1, _ => simp [go_sem]
structure ShopAt (w : World) (lo g h : Nat) : Prop where
  cr : CrossFrom w lo g
  hd : w.heap[h]? = some (.cells #[.string sMain, .int .i64 3, .string sSide, .int .i64 1] 58 (0, 0))
  gh : g < h
  lg : lo ≤ g
theorem hs_block {w : World} {h : Nat} {x y : ByteArray} {i j : Int} (hh : w.heap[h]? = some (.cells #[.string x, .int .i64 i, .string y, .int .i64 j] 58 (0, 0))) (hx : x.size ≤ 8) (hy : y.size ≤ 8) : Hs w (some ⟨h, 0, none⟩) 2 [(x, i), (y, j)] := by
  refine ⟨rfl, Or.inr ⟨h, 0, rfl, (Array.getElem?_eq_some_iff.1 hh).1, fun k hk => ?_⟩⟩
  rw [cell_of_row _ _ _ _ _ _ hh, cell_of_row _ _ _ _ _ _ hh]
  match k, hk with
  | 0, _ => exact ⟨rfl, rfl, by show x.size ≤ _; omega⟩
  | 1, _ => exact ⟨rfl, rfl, by show y.size ≤ _; omega⟩
theorem ShopAt.hs {w : World} {lo g h : Nat} (S : ShopAt w lo g h) : Hs w (some ⟨h, 0, none⟩) 2 shopH := hs_block S.hd (by decide) (by decide)
theorem ShopAt.cm {w : World} {lo g h : Nat} (S : ShopAt w lo g h) : Cm w (some ⟨g, 0, none⟩) 6 crossL := S.cr.at.cm
set_option maxHeartbeats 2000000 in
theorem shop_any (w : World) : Calls Tryz.prog 23 #[] w fun e w' => ∃ g h, e = .returned (.agg #[.slice (some ⟨g, 0, none⟩) 6 6, .slice (some ⟨h, 0, none⟩) 2 2]) ∧ ShopAt w' w.heap.size g h ∧ Below w.heap.size w w' := by
  obtain ⟨p, hp⟩ : ∃ p, p = w.heap.size := ⟨_, rfl⟩
  obtain ⟨W, hW⟩ : ∃ W, W = w.alloc (.cells #[.slice none 0 0, .slice none 0 0] 35) := ⟨_, rfl⟩
  have hb0 : Below w.heap.size w W := by rw [hW]; exact (Below.refl _ _).alloc (Nat.le_refl _) _
  have hWs : W.heap.size = p + 1 := by rw [hW, hp]; simp
  have hWp : W.heap[p]? = some (.cells #[.slice none 0 0, .slice none 0 0] 35 (0, 0)) := by rw [hW, hp]; exact heap_alloc_new _ _
  have HC : Hid (Calls Tryz.prog 56 #[] W fun e w' => ∃ g, e = .returned (.slice (some ⟨g, 0, none⟩) 6 6) ∧ W.heap.size ≤ g ∧ CrossFrom w' W.heap.size g ∧ Below W.heap.size W w') := crossF_any W
  have HW : Hid (W = w.alloc (.cells #[.slice none 0 0, .slice none 0 0] 35)) := hW
  have HP : Aside (p = w.heap.size) := hp
  clear hW hp
  go_enter Tryz.func23, Tryz.ntmps23
  go_wp2_with fail
  rw [← HW.out, ← HP.out]
  refine HC.out.mono ?_
  rintro e w1 ⟨g, rfl, hg, hcr, hb1⟩
  have hg1 := hcr.at.lt
  have hs1 := hb1.size
  have hp1 : w1.heap[p]? = some (.cells #[.slice none 0 0, .slice none 0 0] 35 (0, 0)) := (hb1.block p (by omega)).trans hWp
  have hp1l : p < w1.heap.size := by omega
  have j0 : w1.cell? ⟨p, 0, none⟩ = some (.slice none 0 0) := by rw [cell_of_row _ _ _ _ _ _ hp1]; rfl
  have j1 : w1.cell? ⟨p, 1, none⟩ = some (.slice none 0 0) := by rw [cell_of_row _ _ _ _ _ _ hp1]; rfl
  have f0 : w1.frozen? ⟨p, 0, none⟩ = false := frozen_of_row _ _ _ _ _ hp1
  have f1 : w1.frozen? ⟨p, 1, none⟩ = false := frozen_of_row _ _ _ _ _ hp1
  have hp3 := heap_setCell_same w1 p 0 _ _ (.slice (some ⟨g, 0, none⟩) 6 6) hp1
  have f2 : (w1.setCell ⟨p, 0, none⟩ (.slice (some ⟨g, 0, none⟩) 6 6)).frozen? ⟨p, 1, none⟩ = false := frozen_of_row _ _ _ _ _ hp3
  have f3 : ((w1.setCell ⟨p, 0, none⟩ (.slice (some ⟨g, 0, none⟩) 6 6)).alloc (.cells #[.string ⟨#[109, 97, 105, 110]⟩, .int .i64 3, .string ⟨#[115, 105, 100, 101]⟩, .int .i64 1] 58)).frozen? ⟨p, 1, none⟩ = false := frozen_of_row _ _ _ _ _ (by rw [Below.heap_alloc _ _ _ (by simp [World.setCell]; omega)]; exact hp3)
  have hp4 := heap_setCell_same _ p 1 _ _ (.slice (some ⟨w1.heap.size, 0, none⟩) 2 2) hp3
  obtain ⟨Y, hY⟩ : ∃ Y, Y = (w1.setCell ⟨p, 0, none⟩ (.slice (some ⟨g, 0, none⟩) 6 6)).setCell ⟨p, 1, none⟩ (.slice (some ⟨w1.heap.size, 0, none⟩) 2 2) := ⟨_, rfl⟩
  have hYk : ∀ k, k ≠ p → Y.heap[k]? = w1.heap[k]? := fun k hk => by rw [hY, heap_setCell_other _ _ _ _ (by exact hk), heap_setCell_other _ _ _ _ (by exact hk)]
  have hYs : Y.heap.size = w1.heap.size := by rw [hY]; simp [World.setCell]
  rw [← hY] at hp4
  obtain ⟨X, hX⟩ : ∃ X, X = Y.alloc (.cells #[.string ⟨#[109, 97, 105, 110]⟩, .int .i64 3, .string ⟨#[115, 105, 100, 101]⟩, .int .i64 1] 58) := ⟨_, rfl⟩
  have hXo : ∀ k, k < w1.heap.size → X.heap[k]? = Y.heap[k]? := fun k hk => by rw [hX]; exact Below.heap_alloc _ _ _ (by omega)
  have hXh : X.heap[w1.heap.size]? = some (.cells #[.string sMain, .int .i64 3, .string sSide, .int .i64 1] 58 (0, 0)) := by rw [hX, ← hYs]; exact heap_alloc_new _ _
  have hXp : X.heap[p]? = some (.cells #[.slice (some ⟨g, 0, none⟩) 6 6, .slice (some ⟨w1.heap.size, 0, none⟩) 2 2] 35 (0, 0)) := (hXo p hp1l).trans hp4
  have hXs : w1.heap.size ≤ X.heap.size := by rw [hX]; simp [hYs]
  have x0 : X.cell? ⟨p, 0, none⟩ = some (.slice (some ⟨g, 0, none⟩) 6 6) := by rw [cell_of_row _ _ _ _ _ _ hXp]; rfl
  have x1 : X.cell? ⟨p, 1, none⟩ = some (.slice (some ⟨w1.heap.size, 0, none⟩) 2 2) := by rw [cell_of_row _ _ _ _ _ _ hXp]; rfl
  have HE : Aside (ShopAt X p g w1.heap.size ∧ Below w.heap.size w X) := by
    have c1 : Below w.heap.size w w1 := hb0.trans (hb1.mono hb0.size)
    refine ⟨⟨?_, hXh, hg1, by omega⟩, ?_⟩
    · have h1 := hcr.keep (w' := X) (fun k h1 h2 => by rw [hXo k (by omega), hYk k (by omega)]) hXs
      obtain ⟨f, b1, b2, b3, b4, h1, k1, k2, k3, k4, k5, r⟩ := h1
      exact ⟨f, b1, b2, b3, b4, h1, ⟨by omega, k1.2⟩, ⟨by omega, k2.2⟩, ⟨by omega, k3.2⟩, ⟨by omega, k4.2⟩, ⟨by omega, k5.2⟩, r⟩
    · have c2 : Below w.heap.size w Y := by rw [hY]; exact (c1.setCell (p := ⟨p, 0, none⟩) (by show w.heap.size ≤ p; rw [HP.out]; exact Nat.le_refl _) _).setCell (p := ⟨p, 1, none⟩) (by show w.heap.size ≤ p; rw [HP.out]; exact Nat.le_refl _) _
      rw [hX]; exact c2.alloc (by rw [hYs]; exact c1.size) _
  have HX : Hid (X = ((w1.setCell ⟨p, 0, none⟩ (.slice (some ⟨g, 0, none⟩) 6 6)).setCell ⟨p, 1, none⟩ (.slice (some ⟨w1.heap.size, 0, none⟩) 2 2)).alloc (.cells #[.string ⟨#[109, 97, 105, 110]⟩, .int .i64 3, .string ⟨#[115, 105, 100, 101]⟩, .int .i64 1] 58)) := by rw [← hY]; exact hX
  rw [HP.out] at HE
  have HX0 : Aside (X.cell? ⟨p, 0, none⟩ = some (.slice (some ⟨g, 0, none⟩) 6 6)) := x0
  have HX1 : Aside (X.cell? ⟨p, 1, none⟩ = some (.slice (some ⟨w1.heap.size, 0, none⟩) 2 2)) := x1
  clear hX hY hp3 hp4 hXo hXh hXp hYk hYs hXs hp1 hWp hWs hcr x0 x1
  go_wp2
  rw [← HX.out]
  have x0 := HX0.out
  have x1 := HX1.out
  refine bodyPost_ret (v := .agg #[.slice (some ⟨g, 0, none⟩) 6 6, .slice (some ⟨w1.heap.size, 0, none⟩) 2 2]) (by simp [results, Tryz.results23, go_sem, x0, x1]) rfl ?_
  exact ⟨g, w1.heap.size, rfl, HE.out.1, HE.out.2⟩
theorem ShopAt.v2 {w : World} {lo g h : Nat} (S : ShopAt w lo g h) : RepoV w (some ⟨g, 0, none⟩) 6 6 crossL (some ⟨h, 0, none⟩) 2 2 shopH := by
  refine ⟨S.cm, ?_, by omega, S.hs, by omega, fun h => by cases h⟩
  intro b off e i hi x m c hor hx
  cases e
  obtain ⟨f, b1, b2, b3, b4, h1, _⟩ := S.cr
  subst hx
  rw [cell_of_row _ _ _ _ _ _ h1, cell_of_row _ _ _ _ _ _ h1] at hor
  match i, hi with
  | 0, _ => simpa [crossC, eq_comm] using hor
  | 1, _ => simp [crossC] at hor
  | 2, _ => simpa [crossC, eq_comm] using hor
  | 3, _ => simpa [crossC, eq_comm] using hor
  | 4, _ => simpa [crossC, eq_comm] using hor
  | 5, _ => simpa [crossC, eq_comm] using hor
def lbP : M.Act := ⟨1, [109, 97, 105, 110], [], [(3, -1, 700)]⟩
def lbB : M.Act := ⟨2, [98], [109, 97, 105, 110], []⟩
def lbK : M.Act := ⟨256, [], [], []⟩
def lb0 : M.Act := ⟨0, [], [], []⟩
def lbS : M.By := [1, 4, 109, 97, 105, 110, 0, 1, 3, 0, 0, 2, 189]
def lbT : M.By := [2, 1, 98, 4, 109, 97, 105, 110, 0]
theorem lb1 : M.wA lbP = (lbS, false) := by decide +kernel
theorem lb2 : M.wA lbB = (lbT, false) := by decide +kernel
theorem lb3 : (M.wA lbK).2 = true := by decide +kernel
theorem lb4 : M.rAs 60 (lbS ++ lbT ++ [1]) = ([lbP, lbB], [1]) := by kernel_rfl
theorem lb5 : M.rAs 60 (lbS ++ lbT) = ([lbP, lbB], []) := by kernel_rfl
theorem lb6 : (M.done [lbP, lbB]).1.length = 2 ∧ (M.done [lbP, lbB]).2.length = 2 := by decide +kernel
theorem lb7 : M.doE crossL shopH lb0 = 8 := by decide +kernel
theorem str_append (a b : M.By) : M.str a ++ M.str b = M.str (a ++ b) := by
  apply ByteArray.ext
  simp [M.str]
set_option maxRecDepth 100000 in
set_option maxHeartbeats 8000000 in
theorem lbegun_any (w : World) : Calls Tryz.prog 6 #[] w fun e w' => e = .returned (.bool true) ∧ Below w.heap.size w w' := by
  obtain ⟨sp, hsp⟩ : ∃ sp, sp = M.str lbS := ⟨_, rfl⟩
  obtain ⟨sb, hsb⟩ : ∃ sb, sb = M.str lbT := ⟨_, rfl⟩
  have zp : sp.size = 13 := by rw [hsp]; rfl
  have zb : sb.size = 9 := by rw [hsb]; rfl
  have HC1 : Hid (sp ++ sb ++ ⟨#[1]⟩ = M.str (lbS ++ lbT ++ [1])) := by unfold Hid; rw [hsp, hsb, show (⟨#[1]⟩ : ByteArray) = M.str [1] from rfl, str_append, str_append]
  have HC2 : Hid (sp ++ sb = M.str (lbS ++ lbT)) := by unfold Hid; rw [hsp, hsb, str_append]
  have KP : Hid (∀ V : World, Calls Tryz.prog 7 #[.agg #[.int .i64 1, .string ⟨#[109, 97, 105, 110]⟩, .string ⟨#[]⟩, .slice (some ⟨V.heap.size, 0, none⟩) 1 1]] (V.alloc (.cells #[.int .i64 3, .int .i64 (-1), .int .i64 700] 64)) fun e w' => e = .returned (.tuple #[.string sp, .int .i64 0]) ∧ Below V.heap.size V w') := fun V => by
    have b0 : Below V.heap.size V (V.alloc (.cells #[.int .i64 3, .int .i64 (-1), .int .i64 700] 64)) := (Below.refl _ _).alloc (Nat.le_refl _) _
    have K := write_any lbP (some ⟨V.heap.size, 0, none⟩) 1 1 (V.alloc (.cells #[.int .i64 3, .int .i64 (-1), .int .i64 700] 64)) ⟨rfl, Or.inr ⟨V.heap.size, 0, rfl, by simp, fun i hi => by obtain rfl : i = 0 := (by omega); simp [go_sem, lbP]⟩⟩ (by omega) (by decide) (by decide) (by simp [lbP, M.inI])
    rw [lb1] at K
    refine K.mono ?_
    rintro e w' ⟨rfl, h⟩
    exact ⟨by rw [hsp]; rfl, dbelow2 b0 h⟩
  have KB : Hid (∀ V : World, Calls Tryz.prog 7 #[.agg #[.int .i64 2, .string ⟨#[98]⟩, .string ⟨#[109, 97, 105, 110]⟩, .slice none 0 0]] V fun e w' => e = .returned (.tuple #[.string sb, .int .i64 0]) ∧ Below V.heap.size V w') := fun V => by
    have K := write_any lbB none 0 0 V ⟨rfl, Or.inl rfl⟩ (by omega) (by decide) (by decide) (by simp [lbB])
    rw [lb2] at K
    refine K.mono ?_
    rintro e w' ⟨rfl, h⟩
    exact ⟨by rw [hsb]; rfl, h⟩
  have KK : Hid (∀ V : World, Calls Tryz.prog 7 #[.agg #[.int .i64 256, .string ⟨#[]⟩, .string ⟨#[]⟩, .slice none 0 0]] V fun e w' => e = .returned (.tuple #[.string ⟨#[]⟩, .int .i64 3]) ∧ Below V.heap.size V w') := fun V => by
    have K := write_any lbK none 0 0 V ⟨rfl, Or.inl rfl⟩ (by omega) (by decide) (by decide) (by simp [lbK])
    rw [lb3] at K
    refine K.mono ?_
    rintro e w' ⟨rfl, h⟩
    exact ⟨rfl, h⟩
  have KR : Hid (∀ V : World, Calls Tryz.prog 13 #[.string (M.str (lbS ++ lbT ++ [1]))] V fun e w' => ∃ a cap, e = .returned (.tuple #[.slice a 2 cap, .int .i64 22, .int .i64 0]) ∧ Ac w' a 2 [lbP, lbB] ∧ Below V.heap.size V w') := fun V => by
    refine (replay_any (lbS ++ lbT ++ [1]) V (by decide)).mono ?_
    rintro e w' ⟨hb, ⟨h, _⟩ | ⟨_, v, rfl, ho⟩⟩
    · exact absurd h (by decide)
    · rw [lb4] at ho ⊢
      obtain ⟨a, cap, rfl, h1, _⟩ := ho.ac
      exact ⟨a, cap, rfl, h1, hb⟩
  have KC : Hid (∀ V : World, Calls Tryz.prog 9 #[.string (M.str (lbS ++ lbT))] V fun e w' => ∃ a cap a2 cap2, e = .returned (.tuple #[.agg #[.slice a 2 cap, .slice a2 2 cap2], .int .i64 2, .int .i64 0]) ∧ Below V.heap.size V w') := fun V => by
    refine (recover_any (lbS ++ lbT) V (by decide)).mono ?_
    rintro e w' ⟨hb, ⟨h, _⟩ | ⟨_, v, rfl, ho⟩⟩
    · exact absurd h (by decide)
    · rw [lb5] at ho ⊢
      obtain ⟨xa, xc, ya, yc, rfl, _⟩ := ho.v
      rw [lb6.1, lb6.2]
      exact ⟨xa, xc, ya, yc, rfl, hb⟩
  have KD : Hid (∀ (V : World) (g h lo : Nat), ShopAt V lo g h → Calls Tryz.prog 14 #[.agg #[.slice (some ⟨g, 0, none⟩) 6 6, .slice (some ⟨h, 0, none⟩) 2 2], .agg #[.int .i64 0, .string ⟨#[]⟩, .string ⟨#[]⟩, .slice none 0 0]] V fun e w' => ∃ a n cap a2 n2 cap2, e = .returned (.tuple #[.agg #[.slice a n cap, .slice a2 n2 cap2], .int .i64 8]) ∧ Below V.heap.size V w') := fun V g h lo S => by
    have K := do_any _ _ _ _ _ _ _ _ lb0 none 0 0 V S.v2 ⟨rfl, Or.inl rfl⟩ (by omega) (by decide)
    rw [lb7] at K
    refine K.mono ?_
    rintro e w' ⟨v, rfl, ho, hb⟩
    obtain ⟨xa, xc, ya, yc, rfl, _⟩ := ho.v
    exact ⟨_, _, _, _, _, _, rfl, hb⟩
  clear hsp hsb
  go_enter Tryz.func6, Tryz.ntmps6
  go_wp2_with fail
  refine (KP.out w).mono ?_
  rintro e w1 ⟨rfl, b1⟩
  go_wp2_with fail
  refine (KB.out w1).mono ?_
  rintro e w2 ⟨rfl, bb⟩
  have b2 := dbelow2 b1 bb
  clear b1 bb KP KB
  go_wp2_with fail
  rw [HC1.out]
  refine (KR.out w2).mono ?_
  rintro e w3 ⟨la, lc, rfl, hAc, bb⟩
  have b3 := dbelow2 b2 bb
  have HAc : Hid (Ac w3 la 2 [lbP, lbB]) := hAc
  clear b2 bb KR hAc
  go_wp2_with fail
  rw [HC2.out]
  refine (KC.out w3).mono ?_
  rintro e w4 ⟨xa, xc, ya, yc, rfl, bb⟩
  have b4 := dbelow2 b3 bb
  have HAc4 : Hid (Ac w4 la 2 [lbP, lbB]) := HAc.out.below bb
  obtain ⟨X, hX⟩ : ∃ X, X = w4.alloc (.cells #[.slice xa 2 xc, .slice ya 2 yc] 35) := ⟨_, rfl⟩
  obtain ⟨pX, hpX⟩ : ∃ p, p = w4.heap.size := ⟨_, rfl⟩
  have bX : Below w4.heap.size w4 X := by rw [hX]; exact (Below.refl _ _).alloc (Nat.le_refl _) _
  have hX0 : X.heap[pX]? = some (.cells #[.slice xa 2 xc, .slice ya 2 yc] 35 (0, 0)) := by rw [hX, hpX]; exact heap_alloc_new _ _
  have HX0 : Hid (X.heap[pX]? = some (.cells #[.slice xa 2 xc, .slice ya 2 yc] 35 (0, 0))) := hX0
  have HX : Hid (X = w4.alloc (.cells #[.slice xa 2 xc, .slice ya 2 yc] 35)) := hX
  have HPX : Aside (pX = w4.heap.size) := hpX
  have b5 := dbelow2 b4 bX
  have HAc5 : Hid (Ac X la 2 [lbP, lbB]) := HAc4.out.below bX
  clear b3 b4 bb KC hX hpX bX hX0 HAc HAc4
  go_wp2_with fail
  rw [← HX.out, ← HPX.out]
  refine (KK.out X).mono ?_
  rintro e w6 ⟨rfl, b6⟩
  clear KK
  go_wp2_with fail
  refine (shop_any _).mono ?_
  rintro e w7 ⟨g0, h0, rfl, S0, b7⟩
  have HS : Hid (ShopAt w7 _ g0 h0) := S0
  clear S0
  go_wp2_with fail
  refine (KD.out w7 _ _ _ HS.out).mono ?_
  rintro e w8 ⟨da, dn, dc, ea, en, ec, rfl, b8⟩
  obtain ⟨Y, hY⟩ : ∃ Y, Y = w8.alloc (.cells #[.slice da dn dc, .slice ea en ec] 35) := ⟨_, rfl⟩
  have bY : Below w8.heap.size w8 Y := by rw [hY]; exact (Below.refl _ _).alloc (Nat.le_refl _) _
  have qY : Below X.heap.size X Y := dbelow2 (dbelow2 b6 b7) (dbelow2 b8 bY)
  have bF := dbelow2 b5 qY
  have hY0 := (qY.block pX (Array.getElem?_eq_some_iff.1 HX0.out).1).trans HX0.out
  have y0 : Y.cell? ⟨pX, 0, none⟩ = some (.slice xa 2 xc) := by rw [cell_of_row _ _ _ _ _ _ hY0]; rfl
  have y1 : Y.cell? ⟨pX, 1, none⟩ = some (.slice ya 2 yc) := by rw [cell_of_row _ _ _ _ _ _ hY0]; rfl
  obtain ⟨_, h0 | ⟨lb, lo, rfl, _, hcs⟩⟩ := HAc5.out.below qY
  · omega
  obtain ⟨ca, cn, cc, _, _, _, d3, hd⟩ := hcs 0 (by omega)
  obtain ⟨hcn, h0 | ⟨kb, ko, rfl, _, hk⟩⟩ := hd.1
  · exact absurd (hcn.trans h0) (by decide)
  obtain rfl : cn = 1 := hcn.symm
  obtain ⟨k0, k1, k2⟩ := hk 0 (by omega)
  have k0 : Y.cell? ⟨kb, ko, none⟩ = some (.int .i64 3) := k0
  have k1 : Y.cell? ⟨kb, ko + 1, none⟩ = some (.int .i64 (-1)) := k1
  have k2 : Y.cell? ⟨kb, ko + 2, none⟩ = some (.int .i64 700) := k2
  have d3 : Y.cell? ⟨lb, lo + 3, none⟩ = some (.slice (some ⟨kb, ko, none⟩) 1 cc) := d3
  have HY : Hid (Y = w8.alloc (.cells #[.slice da dn dc, .slice ea en ec] 35)) := hY
  rw [hY] at k0 k1 k2 d3 y0 y1
  clear hk hcs hY0 bY qY b5 b6 b7 b8 hY hd
  go_wp2
  rw [← HY.out]
  go_ret
  exact ⟨rfl, bF⟩
structure KBox (w : World) (p : Nat) (a : Option Addr) (n cap : Nat) (C : List M.Com) (a2 : Option Addr) (n2 cap2 : Nat) (H : List M.Hd) : Prop where
  c0 : w.cell? ⟨p, 0, none⟩ = some (.slice a n cap)
  c1 : w.cell? ⟨p, 1, none⟩ = some (.slice a2 n2 cap2)
  lt : p < w.heap.size
  v : RepoV w a n cap C a2 n2 cap2 H
theorem KBox.later {w w' : World} {p : Nat} {a : Option Addr} {n cap : Nat} {C : List M.Com} {a2 : Option Addr} {n2 cap2 : Nat} {H : List M.Hd} (h : KBox w p a n cap C a2 n2 cap2 H) (hb : Below w.heap.size w w') : KBox w' p a n cap C a2 n2 cap2 H :=
  ⟨(hb.cell (p := ⟨p, 0, none⟩) h.lt).trans h.c0, (hb.cell (p := ⟨p, 1, none⟩) h.lt).trans h.c1, Nat.lt_of_lt_of_le h.lt hb.size, h.v.later hb⟩
theorem KBox.new {w : World} {a : Option Addr} {n cap : Nat} {C : List M.Com} {a2 : Option Addr} {n2 cap2 : Nat} {H : List M.Hd} (h : RepoV w a n cap C a2 n2 cap2 H) : KBox (w.alloc (.cells #[.slice a n cap, .slice a2 n2 cap2] 35)) w.heap.size a n cap C a2 n2 cap2 H :=
  ⟨by simp [go_sem], by simp [go_sem], by simp, h.later ((Below.refl _ _).alloc (Nat.le_refl _) _)⟩
end Go.Proofs.YtcgpgflnihjpiagGreat
namespace Go.Proofs.YtcgpgflnihjpiagGreat
open Go.RowKit Go.Shelf
structure RAt (Wp : World) (D : Nat) (x y : Value) (C : List M.Com) (H : List M.Hd) (w : World) : Prop where
  bel : Below Wp.heap.size Wp w
  blk : w.heap[D]? = some (.cells #[x, y] 35 (0, 0))
  k : OwnK w Wp.heap.size x C
  h : OwnH w Wp.heap.size y H
theorem RAt.later {Wp : World} {D : Nat} {x y : Value} {C : List M.Com} {H : List M.Hd} {w w' : World} (h : RAt Wp D x y C H w) (hb : Below w.heap.size w w') : RAt Wp D x y C H w' :=
  ⟨h.bel.trans (hb.mono h.bel.size), (hb.block D (Array.getElem?_eq_some_iff.1 h.blk).1).trans h.blk, h.k.later hb, h.h.later hb⟩
theorem RAt.put {Wp : World} {D : Nat} {x x' y : Value} {C : List M.Com} {c : M.Com} {q : Value × Value} {H : List M.Hd} {w w' : World} {vals : List (Value × Value)} (hD : Wp.heap.size ≤ D) (h : RAt Wp D x y C H w) (tmp : Obj) (hl : vals.length = C.length) (h1 : w.ownsRow Wp.heap.size 54 2 x C.length (encP vals)) (h2 : ∀ i, i < C.length → OwnCo w Wp.heap.size (vals.getD i vp0) (C.getD i ([], [])))
    (hq : OwnCo w Wp.heap.size q c) (h3 : w'.ownsRow Wp.heap.size 54 2 x' (C.length + 1) (encP vals ++ [q.1, q.2])) (hg : (w.alloc tmp).grownBy w' x.ownBlock) :
    RAt Wp D x' y (C ++ [c]) H (w'.setCell ⟨D, 0, none⟩ x') ∧ w'.heap[D]? = some (.cells #[x, y] 35 (0, 0)) := by
  have hlt := (Array.getElem?_eq_some_iff.1 h.blk).1
  have typ : ∀ r, x.ownBlock = some r → ∃ cur, (w.alloc tmp).heap[r]? = some (.cells cur 54 (0, 0)) := by
    intro r e
    rcases (h1.alloc tmp).2 with ⟨rfl, _⟩ | ⟨g, cap, cur', rfl, _, hgb, _⟩
    · simp [Value.ownBlock] at e
    · obtain rfl : g = r := by simpa [Value.ownBlock] using e
      exact ⟨_, hgb⟩
  have other : ∀ e, e ≠ 54 → ∀ r, x.ownBlock = some r → ∀ cur, (w.alloc tmp).heap[r]? ≠ some (.cells cur e (0, 0)) := by
    intro e he r hr cur hc
    obtain ⟨cur', hcur⟩ := typ r hr
    rw [hcur] at hc
    simp at hc
    exact he hc.2.symm
  have hDa : (w.alloc tmp).heap[D]? = some (.cells #[x, y] 35 (0, 0)) := by rw [Below.heap_alloc _ _ _ hlt]; exact h.blk
  have hne : x.ownBlock ≠ some D := fun e => other _ (by decide) D e _ hDa
  have hbk : w'.heap[D]? = some (.cells #[x, y] 35 (0, 0)) := by
    rw [hg.block D (by simp; omega) (fun e => hne e.symm)]; exact hDa
  have b1 : Below Wp.heap.size Wp w' := (h.bel.alloc h.bel.size tmp).grown hg (by have := h.bel.size; simp; omega) (fun k e => by
    have := (World.ownsRow.lt h1 k e).1; omega)
  have hba : Below w.heap.size w (w.alloc tmp) := (Below.refl _ _).alloc (Nat.le_refl _) _
  have K' : OwnK w' Wp.heap.size x' (C ++ [c]) := OwnK.append hl (h1.alloc tmp) (fun i hi => (h2 i hi).later hba) (hq.later hba) h3 hg
  have g2 := grownBy_set w' ⟨D, 0, none⟩ x'
  refine ⟨⟨b1.setCell (p := ⟨D, 0, none⟩) hD _, ?_, K'.elsewhere g2 hbk (by decide) (by decide) (by decide), OwnH.elsewhere ⟨ownsRow_elsewhere (h.h.later hba).1 hg (other _ (by decide)), h.h.2⟩ g2 hbk (by decide)⟩, hbk⟩
  rw [heap_setCell_same _ _ _ _ _ _ hbk]; rfl
theorem rown_end {Wp wr w5 w6 : World} {D k g6 cap6 : Nat} {x y v4 v5 : Value} {Ck : List M.Com} {cc : M.Com} {H : List M.Hd} {vals : List (Value × Value)} (hCl : Ck.length = k) (hVl : vals.length = Ck.length) (hrow : wr.ownsRow Wp.heap.size 54 2 x k (encP vals)) (hel : ∀ i, i < Ck.length → OwnCo wr Wp.heap.size (vals.getD i vp0) (Ck.getD i ([], []))) (hD : Wp.heap.size ≤ D)
    (hw5 : Below wr.heap.size wr w5) (hO : RAt Wp D x y Ck H w5) (hq : OwnCo w5 Wp.heap.size (v4, v5) cc) (h6 : w6.ownsRow Wp.heap.size 54 2 (.slice (some ⟨g6, 0, none⟩) (k + 1) cap6) (k + 1) (encP vals ++ [v4, v5])) (h7 : (w5.alloc (.cells #[v4, v5] 54)).grownBy w6 x.ownBlock) :
    RAt Wp D (.slice (some ⟨g6, 0, none⟩) (k + 1) cap6) y (Ck ++ [cc]) H (w6.setCell ⟨D, 0, none⟩ (.slice (some ⟨g6, 0, none⟩) (k + 1) cap6)) ∧ w6.heap[D]? = some (.cells #[x, y] 35 (0, 0)) := by
  subst hCl
  exact hO.put hD (.cells #[v4, v5] 54) hVl (ownsRow_later hrow hw5) (fun i hi => (hel i hi).later hw5) hq h6 h7
theorem own_other {w w' : World} {b1 b2 : Nat} {t1 t2 : TypeId} {s1 s2 n1 n2 : Nat} {v1 v2 : Value} {x1 x2 : List Value} (h1 : w.ownsRow b1 t1 s1 v1 n1 x1) (h2 : w.ownsRow b2 t2 s2 v2 n2 x2) (ht : t1 ≠ t2) (hg : w.grownBy w' v2.ownBlock) : w'.ownsRow b1 t1 s1 v1 n1 x1 :=
  keep_row h1 fun k hk e => hg.block k hk fun e2 => apart_rows h1 h2 ht k e e2.symm
theorem below_grown {w w' : World} {g : Option Nat} {B : Nat} (h : w.grownBy w' g) (hg : ∀ k, g = some k → B ≤ k) (hB : B ≤ w.heap.size) : Below B w w' :=
  (Below.refl B w).grown h hB hg
set_option maxRecDepth 100000 in
set_option maxHeartbeats 8000000 in
theorem ownRepo_any (a : Option Addr) (n cap : Nat) (C : List M.Com) (a2 : Option Addr) (n2 cap2 : Nat) (H : List M.Hd) (w : World) (hV : RepoV w a n cap C a2 n2 cap2 H) (hz : M.rchk C H = 0) :
    Calls Tryz.prog 17 #[.agg #[.slice a n cap, .slice a2 n2 cap2]] w fun e w' => ∃ v, e = .returned v ∧ RepoOwn w' w.heap.size v C H ∧ Below w.heap.size w w' := by
  obtain ⟨p, hp⟩ : ∃ p, p = w.heap.size := ⟨_, rfl⟩
  have I0 := InBox.new w a n cap C a2 n2 cap2 H hV.cm hV.hs
  obtain ⟨Wp, hWp⟩ : ∃ Wp, Wp = (w.alloc (.cells #[.slice a n cap, .slice a2 n2 cap2] 35)).alloc (.cells #[.slice none 0 0, .slice none 0 0] 35) := ⟨_, rfl⟩
  have hb0 : Below (w.alloc (.cells #[.slice a n cap, .slice a2 n2 cap2] 35)).heap.size (w.alloc (.cells #[.slice a n cap, .slice a2 n2 cap2] 35)) Wp := by rw [hWp]; exact (Below.refl _ _).alloc (Nat.le_refl _) _
  have I1 := I0.below hb0
  rw [← hp] at I1
  have hbp : Below w.heap.size w Wp := by rw [hWp]; exact ((Below.refl _ _).alloc (Nat.le_refl _) _).alloc (by simp) _
  have hsp : Wp.heap.size = p + 2 := by rw [hWp, hp]; simp
  have q2 : Wp.heap[p + 1]? = some (.cells #[.slice none 0 0, .slice none 0 0] 35 (0, 0)) := by
    rw [hWp, show p + 1 = (w.alloc (.cells #[.slice a n cap, .slice a2 n2 cap2] 35)).heap.size by rw [hp]; simp]
    exact heap_alloc_new _ _
  obtain ⟨Wh, hWh⟩ : ∃ Wh, Wh = Wp.alloc (.cells #[] 58) := ⟨_, rfl⟩
  have hbh : Below Wp.heap.size Wp Wh := by rw [hWh]; exact (Below.refl _ _).alloc (Nat.le_refl _) _
  have HO0 : Hid (OwnH Wh Wp.heap.size (.slice (some ⟨w.heap.size + 1 + 1, 0, none⟩) 0 0) []) := ⟨by rw [hWh, show w.heap.size + 1 + 1 = Wp.heap.size by rw [hsp, hp]]; exact own_empty Wp _ _ _ (Nat.le_refl _), fun x hx => by simp at hx⟩
  have HVp : Hid (RepoV Wp a n cap C a2 n2 cap2 H) := hV.later hbp
  have J := I1.below hbh
  have c0 := J.c0
  have c1 := J.c1
  have HI : Hid (InBox Wp p a n cap C a2 n2 cap2 H) := I1
  have HZ : Hid (M.rchk C H = 0) := hz
  have hn2 : n2 ≤ 4 := by have := (M.rchk_zero hz).2.1; have := hV.hs.1; omega
  have hn14 : n ≤ 14 := by have := (M.dchk_zero (M.rchk_zero hz).1).1; have := hV.cm.1; omega
  have HHs : Hid (Hs Wh a2 n2 H) := J.hs
  have HNil : Hid (a2 = none → n2 = 0 ∧ cap2 = 0) := hV.hn
  have HWh : Hid (Wh = ((w.alloc (.cells #[.slice a n cap, .slice a2 n2 cap2] 35)).alloc (.cells #[.slice none 0 0, .slice none 0 0] 35)).alloc (.cells #[] 58)) := by rw [← hWp]; exact hWh
  have HP : Aside (p = w.heap.size) := hp
  have HSp : Aside (Wp.heap.size = p + 2) := hsp
  have HQ2 : Hid (Wp.heap[p + 1]? = some (.cells #[.slice none 0 0, .slice none 0 0] 35 (0, 0))) := q2
  have hWs : Wp.heap.size ≤ Wh.heap.size := hbh.size
  have HN : Hid (w.heap.size + 1 + 1 = Wp.heap.size) := by unfold Hid; rw [hsp, hp]
  clear hWh hWp hp I0 I1 J hb0 hV hz q2 hsp
  go_enter Tryz.func17, Tryz.ntmps17
  go_wp2_with (at_builtin; refine wpl_heads rfl _ _ rfl Wp.heap.size (.slice (some ⟨w.heap.size + 1 + 1, 0, none⟩) 0 0) [] rfl (by rw [← HWh.out]; exact HO0.out) a2 n2 cap2 H rfl (by rw [← HWh.out]; exact HHs.out) HNil.out (by simp; omega) (by rw [← HWh.out]; exact hWs) ?_)
  rw [← HWh.out]
  intro v1 w1 ho hg
  have b1 : Below Wp.heap.size Wp w1 := hbh.trans (below_grown hg (fun k e => by have := World.ownsRow.lt HO0.out.1 k e; exact this.1) hWs)
  obtain ⟨D, hD⟩ : ∃ D, D = w1.heap.size := ⟨_, rfl⟩
  obtain ⟨W2, hW2⟩ : ∃ W2, W2 = w1.alloc (.cells #[.slice none 0 0, v1] 35) := ⟨_, rfl⟩
  have bW2 : Below w1.heap.size w1 W2 := by rw [hW2]; exact (Below.refl _ _).alloc (Nat.le_refl _) _
  have R0 : RAt Wp D (.slice none 0 0) v1 [] H W2 := ⟨b1.trans (bW2.mono b1.size), by rw [hW2, hD]; exact heap_alloc_new _ _, OwnK.nil _ _, ho.later bW2⟩
  have hDW : Wp.heap.size ≤ D := by rw [hD]; exact b1.size
  have hpD : p < D := by have := HSp.out; omega
  obtain ⟨ya, yc, rfl, _⟩ := ho.hs
  obtain ⟨yn, hyn⟩ : ∃ yn, yn = H.length := ⟨_, rfl⟩
  rw [← hyn] at R0 hW2 ⊢
  have HR0 : Aside (RAt Wp D (.slice none 0 0) (.slice ya yn yc) [] H W2) := R0
  have HW2 : Hid (W2 = w1.alloc (.cells #[.slice none 0 0, .slice ya yn yc] 35)) := hW2
  have HD : Aside (D = w1.heap.size) := hD
  clear hW2 hD R0 ho hg b1 bW2 c0 c1 HO0 HHs hyn
  go_wp2_with fail
  rw [← HW2.out, ← HD.out, ← HP.out]
  go_loopg [4] n (fun g i wr => ∃ (k : Nat) (x : Value), k + g = n ∧ i = .int .i64 k ∧ Aside (RAt Wp D x (.slice ya yn yc) (C.take k) H wr))
  case atStart => exact ⟨0, _, by omega, rfl, HR0⟩
  case round =>
    obtain ⟨k, x, hk, rfl, HOk⟩ := hrel
    have hbel := HOk.out.bel
    have J := HI.out.below hbel
    have JV := HVp.out.later hbel
    have d0 := J.c0
    by_cases hlt : k < n
    · obtain ⟨b, off, rfl, a1, n1, c1, a3, n3, c3, t0, t1, s0, s1, m0, m1⟩ : ∃ b off, a = some ⟨b, off, none⟩ ∧ ∃ a1 n1 c1 a2 n2 c2, wr.cell? ⟨b, off + k * 2, none⟩ = some (.slice a1 n1 c1) ∧ wr.cell? ⟨b, off + k * 2 + 1, none⟩ = some (.slice a2 n2 c2) ∧ Rd wr a1 n1 (C.getD k ([], [])).1 ∧ Ri wr a2 n2 (C.getD k ([], [])).2 ∧ n1 ≤ 9223372036854775807 ∧ n2 ≤ 9223372036854775807 := by
        rcases J.cm.cases with ⟨h0, _⟩ | ⟨b, off, e, _, _, _, hc⟩
        · omega
        · exact ⟨b, off, e, hc k hlt⟩
      obtain ⟨cc, hcc⟩ : ∃ cc, cc = C.getD k ([], []) := ⟨_, rfl⟩
      rw [← hcc] at s0 s1
      have hRk := (M.dchk_zero (M.rchk_zero HZ.out).1).2 k (by rw [J.cm.1]; exact hlt)
      rw [← hcc] at hRk
      have hn1 : n1 ≤ 40 := by rw [← s0.1]; exact ((M.chk_zero cc.1).1 hRk.1).1
      have hn3 : n3 ≤ 2 := by rw [← s1.1]; exact hRk.2.1
      have HN1 : Hid (a1 = none → n1 = 0 ∧ c1 = 0) := JV.cn b off rfl k hlt a1 n1 c1 (Or.inl t0)
      have HN3 : Hid (a3 = none → n3 = 0 ∧ c3 = 0) := JV.cn b off rfl k hlt a3 n3 c3 (Or.inr t1)
      have ET : Aside (C.take (k + 1) = C.take k ++ [cc]) := by unfold Aside; rw [List.take_succ_eq_append_getElem (by rw [J.cm.1]; exact hlt), hcc]; simp [List.getD, J.cm.1, hlt]
      obtain ⟨Ck, hCk⟩ : ∃ Ck, Ck = C.take k := ⟨_, rfl⟩
      have hCl : Ck.length = k := by rw [hCk, List.length_take, J.cm.1]; omega
      rw [← hCk] at ET HOk
      have HCl : Aside (Ck.length = k) := hCl
      obtain ⟨vals, hvl, hrow, hel⟩ := HOk.out.k
      have HVl : Aside (vals.length = Ck.length) := hvl
      have HRow : Aside (wr.ownsRow Wp.heap.size 54 2 x k (encP vals)) := by unfold Aside; rw [← hCl]; exact hrow
      have HEl : Aside (∀ i, i < Ck.length → OwnCo wr Wp.heap.size (vals.getD i vp0) (Ck.getD i ([], []))) := hel
      obtain ⟨xa, xn, xc, rfl⟩ : ∃ xa xn xc, x = .slice xa xn xc := by obtain ⟨xa, xc, e, _⟩ := HOk.out.k.cm; exact ⟨xa, _, xc, e⟩
      have hDr : D < wr.heap.size := (Array.getElem?_eq_some_iff.1 HOk.out.blk).1
      have hBr : b < wr.heap.size := World.block_lt_of_cell? wr ⟨b, off + k * 2, none⟩ t0
      have hBp : b < Wp.heap.size := by
        rcases HVp.out.cm.cases with ⟨h0, _⟩ | ⟨b', off', e, _, _, hB, _⟩
        · omega
        · cases e; exact hB
      have HSV : Hid (∀ V, Below wr.heap.size wr V → V.cell? ⟨D, 0, none⟩ = some (.slice xa xn xc) ∧ V.cell? ⟨p, 0, none⟩ = some (.slice (some ⟨b, off, none⟩) n cap) ∧ V.cell? ⟨b, off + k * 2, none⟩ = some (.slice a1 n1 c1) ∧ V.cell? ⟨b, off + k * 2 + 1, none⟩ = some (.slice a3 n3 c3)) := fun V hV => by
        refine ⟨?_, ?_, ?_, ?_⟩
        · rw [cell_of_row _ _ _ _ _ _ (HOk.out.later hV).blk]; rfl
        · exact (hV.cell (p := ⟨p, 0, none⟩) (by show p < _; omega)).trans d0
        · exact (hV.cell (p := ⟨b, off + k * 2, none⟩) hBr).trans t0
        · exact (hV.cell (p := ⟨b, off + k * 2 + 1, none⟩) hBr).trans t1
      have HS0 : Hid (Rd wr a1 n1 cc.1) := s0
      have HS1 : Hid (Ri wr a3 n3 cc.2) := s1
      have HLe : Hid (cc.1.length ≤ 1000000 ∧ cc.2.length ≤ 1000000) := ⟨by rw [s0.1]; omega, by rw [s1.1]; omega⟩
      have hWr : Wp.heap.size ≤ wr.heap.size := hbel.size
      have HBd : Hid (Below wr.heap.size wr wr.drew) := (Below.refl _ _).drew
      have hki : (k : Int) < (n : Int) := by omega
      obtain ⟨i1, hi1, hy0, hy1, hy2⟩ := info_parts infoCommit
      clear hcc hRk hCk hCl hvl hrow hel s0 s1 J JV
      go_wp2_with fail
      refine wp_region_till 22 (fun V => V.cell? ⟨D, 0, none⟩ = some (.slice xa xn xc) ∧ V.cell? ⟨p, 0, none⟩ = some (.slice (some ⟨b, off, none⟩) n cap) ∧ V.cell? ⟨b, off + k * 2, none⟩ = some (.slice a1 n1 c1) ∧ V.cell? ⟨b, off + k * 2 + 1, none⟩ = some (.slice a3 n3 c3)) (by kernel_rfl) (HSV.out _ HBd.out) (fun hHeld => ?_)
      refine till_go 0 (v := .pointer (some ⟨D, 0, none⟩)) rfl (by decide) (by kernel_rfl) (by kernel_rfl) (by kernel_rfl) (fun _ _ _ h => h) (Or.inl ⟨by rfl, fun V _ => (by go_simp)⟩) hHeld ?_
      try simp only [Act.put]
      refine till_take 1 (v := .slice xa xn xc) rfl (by decide) (by kernel_rfl) (by kernel_rfl) (by kernel_rfl) (by kernel_rfl) (by kernel_rfl) (fun _ _ _ h => h) (Or.inl ⟨by rfl, fun V hV => (by obtain ⟨v0, v1, v2, v3⟩ := hV; go_simp)⟩) hHeld ?_
      try simp only [Act.put]
      refine till_go 3 (v := .pointer (some ⟨p, 0, none⟩)) rfl (by decide) (by kernel_rfl) (by kernel_rfl) (by kernel_rfl) (fun _ _ _ h => h) (Or.inl ⟨by rfl, fun V _ => (by go_simp)⟩) hHeld ?_
      try simp only [Act.put]
      refine till_take 4 (v := .slice (some ⟨b, off, none⟩) n cap) rfl (by decide) (by kernel_rfl) (by kernel_rfl) (by kernel_rfl) (by kernel_rfl) (by kernel_rfl) (fun _ _ _ h => h) (Or.inl ⟨by rfl, fun V hV => (by obtain ⟨v0, v1, v2, v3⟩ := hV; go_simp)⟩) hHeld ?_
      try simp only [Act.put]
      refine till_go 5 (v := .int .i64 (k : Int)) rfl (by decide) (by kernel_rfl) (by kernel_rfl) (by kernel_rfl) (fun _ _ _ h => h) (Or.inl ⟨by rfl, fun V _ => (by go_simp)⟩) hHeld ?_
      try simp only [Act.put]
      refine till_go 6 (v := .pointer (some ⟨b, off + k * 2, none⟩)) rfl (by decide) (by kernel_rfl) (by kernel_rfl) (by kernel_rfl) (fun _ _ _ h => h) (Or.inl ⟨by rfl, fun V _ => (by go_simp)⟩) hHeld ?_
      try simp only [Act.put]
      refine till_go 7 (v := .pointer (some ⟨b, off + k * 2, none⟩)) rfl (by decide) (by kernel_rfl) (by kernel_rfl) (by kernel_rfl) (fun _ _ _ h => h) (Or.inl ⟨by rfl, fun V _ => (by go_simp)⟩) hHeld ?_
      try simp only [Act.put]
      refine till_take 8 (v := .slice a1 n1 c1) rfl (by decide) (by kernel_rfl) (by kernel_rfl) (by kernel_rfl) (by kernel_rfl) (by kernel_rfl) (fun _ _ _ h => h) (Or.inl ⟨by rfl, fun V hV => (by obtain ⟨v0, v1, v2, v3⟩ := hV; go_simp)⟩) hHeld ?_
      try simp only [Act.put]
      refine till_go 11 (v := .pointer (some ⟨p, 0, none⟩)) rfl (by decide) (by kernel_rfl) (by kernel_rfl) (by kernel_rfl) (fun _ _ _ h => h) (Or.inl ⟨by rfl, fun V _ => (by go_simp)⟩) hHeld ?_
      try simp only [Act.put]
      refine till_take 12 (v := .slice (some ⟨b, off, none⟩) n cap) rfl (by decide) (by kernel_rfl) (by kernel_rfl) (by kernel_rfl) (by kernel_rfl) (by kernel_rfl) (fun _ _ _ h => h) (Or.inl ⟨by rfl, fun V hV => (by obtain ⟨v0, v1, v2, v3⟩ := hV; go_simp)⟩) hHeld ?_
      try simp only [Act.put]
      refine till_go 13 (v := .int .i64 (k : Int)) rfl (by decide) (by kernel_rfl) (by kernel_rfl) (by kernel_rfl) (fun _ _ _ h => h) (Or.inl ⟨by rfl, fun V _ => (by go_simp)⟩) hHeld ?_
      try simp only [Act.put]
      refine till_go 14 (v := .pointer (some ⟨b, off + k * 2, none⟩)) rfl (by decide) (by kernel_rfl) (by kernel_rfl) (by kernel_rfl) (fun _ _ _ h => h) (Or.inl ⟨by rfl, fun V _ => (by go_simp)⟩) hHeld ?_
      try simp only [Act.put]
      refine till_go 15 (v := .pointer (some ⟨b, off + k * 2 + 1, none⟩)) rfl (by decide) (by kernel_rfl) (by kernel_rfl) (by kernel_rfl) (fun _ _ _ h => h) (Or.inl ⟨by rfl, fun V _ => (by go_simp)⟩) hHeld ?_
      try simp only [Act.put]
      refine till_take 16 (v := .slice a3 n3 c3) rfl (by decide) (by kernel_rfl) (by kernel_rfl) (by kernel_rfl) (by kernel_rfl) (by kernel_rfl) (fun _ _ _ h => h) (Or.inl ⟨by rfl, fun V hV => (by obtain ⟨v0, v1, v2, v3⟩ := hV; go_simp)⟩) hHeld ?_
      try simp only [Act.put]
      refine till_two 2 10 rfl rfl (by decide) (by decide) (by kernel_rfl) (fun K hK => ?hA) (fun K hK => ?hB)
      case' hA =>
        go_simp
        have pb1 : Below wr.heap.size wr (wr.alloc (.cells #[] 56)).drew := ((Below.refl _ _).alloc (Nat.le_refl _) _).drew
        have or1 : Own (wr.alloc (.cells #[] 56)).drew Wp.heap.size (.slice (some ⟨wr.heap.size, 0, none⟩) 0 0) [] := ownsRow_later (own_empty wr _ _ _ hWr) ((Below.refl _ _).drew)
        refine hK.out _ _ (HSV.out _ pb1) (fun hHeld => ?_)
        clear hK K
        refine till_two 9 10 rfl rfl (by decide) (by decide) (by kernel_rfl) (fun K hK => ?hC) (fun K hK => ?hD)
        case' hC =>
          refine step_rows rfl _ _ rfl Wp.heap.size _ [] rfl or1 a1 n1 c1 cc.1 rfl (HS0.out.below pb1 (Nat.le_refl _)) HN1.out (by simp; omega) (Nat.le_trans hWr (pb1).size) ?_
          intro v4 w4 o4 g4
          simp only [List.nil_append] at o4
          have pb4 : Below wr.heap.size wr w4 := pb1.trans (below_grown g4 (fun k e => by have e2 := Option.some.inj e; simp at e2; omega) pb1.size)
          refine hK.out _ _ (HSV.out _ pb4) (fun hHeld => ?_)
          clear hK K
          refine till_step 10 rfl (by decide) (by kernel_rfl) (fun K hK => ?_)
          go_simp
          have pb5 : Below wr.heap.size wr (w4.alloc (.cells #[] 3)) := pb4.alloc pb4.size _
          have oi5 : OwnI (w4.alloc (.cells #[] 3)) Wp.heap.size (.slice (some ⟨w4.heap.size, 0, none⟩) 0 0) [] := own_empty w4 _ _ _ (Nat.le_trans hWr pb4.size)
          refine hK.out _ _ (HSV.out _ pb5) (fun hHeld => ?_)
          clear hK K
          refine till_step 17 rfl (by decide) (by kernel_rfl) (fun K hK => ?_)
          refine step_ints rfl _ _ rfl Wp.heap.size _ [] rfl oi5 a3 n3 c3 cc.2 rfl (HS1.out.below pb5 (Nat.le_refl _)) HN3.out (by simp; omega) (Nat.le_trans hWr (pb5).size) ?_
          intro v5 w5 o5 g5
          simp only [List.nil_append] at o5
          have q45 : Below w4.heap.size w4 w5 := ((Below.refl _ _).alloc (Nat.le_refl _) _).trans (below_grown g5 (fun k e => by have e2 := Option.some.inj e; simp at e2; omega) (by simp))
          have H5 : Hid (OwnCo w5 Wp.heap.size (v4, v5) cc) := ⟨ownsRow_later o4 q45, o5, HLe.out⟩
          have b5 : Hid (Below wr.heap.size wr w5) := pb4.trans (q45.mono pb4.size)
          refine hK.out _ _ (HSV.out _ b5.out) (fun hHeld => ?_)
          clear hK K o4 o5 g4 g5 or1 oi5 pb1 pb4 pb5 q45
        case' hD =>
          go_simp
          have pb2 : Below wr.heap.size wr ((wr.alloc (.cells #[] 56)).alloc (.cells #[] 3)).drew := (((Below.refl _ _).alloc (Nat.le_refl _) _).alloc (by simp) _).drew
          have or2 : Own ((wr.alloc (.cells #[] 56)).alloc (.cells #[] 3)).drew Wp.heap.size (.slice (some ⟨wr.heap.size, 0, none⟩) 0 0) [] := ownsRow_later ((own_empty wr _ _ _ hWr).alloc _) ((Below.refl _ _).drew)
          have oi2 : OwnI ((wr.alloc (.cells #[] 56)).alloc (.cells #[] 3)).drew Wp.heap.size (.slice (some ⟨wr.heap.size + 1, 0, none⟩) 0 0) [] := ownsRow_later (by have := own_empty (wr.alloc (.cells #[] 56)) Wp.heap.size 3 1 (by simp; omega); simpa using this) ((Below.refl _ _).drew)
          refine hK.out _ _ (HSV.out _ pb2) (fun hHeld => ?_)
          clear hK K
          refine till_step 9 rfl (by decide) (by kernel_rfl) (fun K hK => ?_)
          refine step_rows rfl _ _ rfl Wp.heap.size _ [] rfl or2 a1 n1 c1 cc.1 rfl (HS0.out.below pb2 (Nat.le_refl _)) HN1.out (by simp; omega) (Nat.le_trans hWr (pb2).size) ?_
          intro v4 w4 o4 g4
          simp only [List.nil_append] at o4
          have pb4 : Below wr.heap.size wr w4 := pb2.trans (below_grown g4 (fun k e => by have e2 := Option.some.inj e; simp at e2; omega) pb2.size)
          have oi4 : OwnI w4 Wp.heap.size (.slice (some ⟨wr.heap.size + 1, 0, none⟩) 0 0) [] := own_other oi2 or2 (by decide) g4
          refine hK.out _ _ (HSV.out _ pb4) (fun hHeld => ?_)
          clear hK K
          refine till_step 17 rfl (by decide) (by kernel_rfl) (fun K hK => ?_)
          refine step_ints rfl _ _ rfl Wp.heap.size _ [] rfl oi4 a3 n3 c3 cc.2 rfl (HS1.out.below pb4 (Nat.le_refl _)) HN3.out (by simp; omega) (Nat.le_trans hWr (pb4).size) ?_
          intro v5 w5 o5 g5
          simp only [List.nil_append] at o5
          have H5 : Hid (OwnCo w5 Wp.heap.size (v4, v5) cc) := ⟨own_other o4 oi4 (by decide) g5, o5, HLe.out⟩
          have b5 : Hid (Below wr.heap.size wr w5) := pb4.trans (below_grown g5 (fun k e => by have e2 := Option.some.inj e; simp at e2; omega) pb4.size)
          refine hK.out _ _ (HSV.out _ b5.out) (fun hHeld => ?_)
          clear hK K o4 o5 g4 g5 or1 or2 oi2 oi4 pb1 pb2 pb4
      case' hB =>
        go_simp
        have pb1 : Below wr.heap.size wr (wr.alloc (.cells #[] 3)).drew := ((Below.refl _ _).alloc (Nat.le_refl _) _).drew
        refine hK.out _ _ (HSV.out _ pb1) (fun hHeld => ?_)
        clear hK K
        refine till_step 2 rfl (by decide) (by kernel_rfl) (fun K hK => ?_)
        go_simp
        have pb2 : Below wr.heap.size wr ((wr.alloc (.cells #[] 3)).alloc (.cells #[] 56)).drew := (((Below.refl _ _).alloc (Nat.le_refl _) _).alloc (by simp) _).drew
        have oi2 : OwnI ((wr.alloc (.cells #[] 3)).alloc (.cells #[] 56)).drew Wp.heap.size (.slice (some ⟨wr.heap.size, 0, none⟩) 0 0) [] := ownsRow_later ((own_empty wr _ _ _ hWr).alloc _) ((Below.refl _ _).drew)
        have or2 : Own ((wr.alloc (.cells #[] 3)).alloc (.cells #[] 56)).drew Wp.heap.size (.slice (some ⟨wr.heap.size + 1, 0, none⟩) 0 0) [] := ownsRow_later (by have := own_empty (wr.alloc (.cells #[] 3)) Wp.heap.size 56 2 (by simp; omega); simpa [YtcgpgflnihjpiagGreat.enc] using this) ((Below.refl _ _).drew)
        refine hK.out _ _ (HSV.out _ pb2) (fun hHeld => ?_)
        clear hK K
        refine till_step 9 rfl (by decide) (by kernel_rfl) (fun K hK => ?_)
        refine step_rows rfl _ _ rfl Wp.heap.size _ [] rfl or2 a1 n1 c1 cc.1 rfl (HS0.out.below pb2 (Nat.le_refl _)) HN1.out (by simp; omega) (Nat.le_trans hWr (pb2).size) ?_
        intro v4 w4 o4 g4
        simp only [List.nil_append] at o4
        have pb4 : Below wr.heap.size wr w4 := pb2.trans (below_grown g4 (fun k e => by have e2 := Option.some.inj e; simp at e2; omega) pb2.size)
        have oi4 : OwnI w4 Wp.heap.size (.slice (some ⟨wr.heap.size, 0, none⟩) 0 0) [] := own_other oi2 or2 (by decide) g4
        refine hK.out _ _ (HSV.out _ pb4) (fun hHeld => ?_)
        clear hK K
        refine till_step 17 rfl (by decide) (by kernel_rfl) (fun K hK => ?_)
        refine step_ints rfl _ _ rfl Wp.heap.size _ [] rfl oi4 a3 n3 c3 cc.2 rfl (HS1.out.below pb4 (Nat.le_refl _)) HN3.out (by simp; omega) (Nat.le_trans hWr (pb4).size) ?_
        intro v5 w5 o5 g5
        simp only [List.nil_append] at o5
        have H5 : Hid (OwnCo w5 Wp.heap.size (v4, v5) cc) := ⟨own_other o4 oi4 (by decide) g5, o5, HLe.out⟩
        have b5 : Hid (Below wr.heap.size wr w5) := pb4.trans (below_grown g5 (fun k e => by have e2 := Option.some.inj e; simp at e2; omega) pb4.size)
        refine hK.out _ _ (HSV.out _ b5.out) (fun hHeld => ?_)
        clear hK K o4 o5 g4 g5 or2 oi2 oi4 pb1 pb2 pb4
      all_goals
        obtain ⟨ua, uc, e4, _⟩ := H5.out.1.rd
        obtain ⟨ub, ud, e5, _⟩ := H5.out.2.1.ri
        obtain ⟨u1, hu1⟩ : ∃ u1, u1 = cc.1.length := ⟨_, rfl⟩
        obtain ⟨u3, hu3⟩ : ∃ u3, u3 = cc.2.length := ⟨_, rfl⟩
        rw [← hu1] at e4
        rw [← hu3] at e5
        dsimp only at e4 e5
        subst e4 e5
        clear hu1 hu3
        have hs5 : wr.heap.size ≤ w5.heap.size := b5.out.size
        have HRA : Hid ((w5.alloc (.cells #[.slice ua u1 uc, .slice ub u3 ud] 54)).ownsRow Wp.heap.size 54 2 (.slice xa xn xc) k (encP vals)) := (ownsRow_later HRow.out b5.out).alloc _
        have pb6 : Below wr.heap.size wr (w5.alloc (.cells #[.slice ua u1 uc, .slice ub u3 ud] 54)) := b5.out.alloc hs5 _
        refine till_go 18 (v := .agg #[.slice ua u1 uc, .slice ub u3 ud]) rfl (by decide) (by kernel_rfl) (by kernel_rfl) (by kernel_rfl) (fun _ _ _ h => h) (Or.inl ⟨by rfl, fun V _ => (by go_simp)⟩) hHeld ?_
        try simp only [Act.put]
        refine till_step 19 rfl (by decide) (by kernel_rfl) (fun K hK => ?_)
        go_simp
        refine hK.out _ _ (HSV.out _ pb6) (fun hHeld => ?_)
        clear hK K
        refine till_step 20 rfl (by decide) (by kernel_rfl) (fun K hK => ?_)
        refine step_append_lies _ rfl _ _ 32 rfl Wp.heap.size 54 i1 (.agg #[.slice none 0 0, .slice none 0 0]) 2 48 Tryz.underlying32 hi1 hy0 hy1 hy2 rfl (by decide) _ k (encP vals) rfl HRA.out ⟨w5.heap.size, 0, none⟩ 1 1 [.slice ua u1 uc, .slice ub u3 ud] rfl rfl (cell_pair_new _ _ _ _) (by simp [Value.oneCell']) (by decide) (by simp only [maxLen]; omega) (by omega) (by simp; omega) _ rfl ?_
        intro g6 cap6 w6 h6 h7 _ _
        obtain ⟨P1, P2⟩ := rown_end HCl.out HVl.out HRow.out HEl.out hDW b5.out (HOk.out.later b5.out) H5.out h6 h7
        have k6 : w6.cell? ⟨D, 0, none⟩ = some (.slice xa xn xc) := by rw [cell_of_row _ _ _ _ _ _ P2]; rfl
        have f6 : w6.frozen? ⟨D, 0, none⟩ = false := frozen_of_row _ _ _ _ _ P2
        have g6b : ∀ q, q < wr.heap.size → q ≠ D → w6.heap[q]? = wr.heap[q]? ∨ (Value.slice xa xn xc).ownBlock = some q := fun q hq _ => by
          by_cases e : (Value.slice xa xn xc).ownBlock = some q
          · exact Or.inr e
          · exact Or.inl ((h7.block q (by simp; omega) (fun e2 => e e2.symm)).trans (pb6.block q hq))
        have typ : ∀ q, (Value.slice xa xn xc).ownBlock = some q → Wp.heap.size ≤ q := fun q e => (World.ownsRow.lt HRow.out q e).1
        have low : ∀ q, q < Wp.heap.size → w6.heap[q]? = wr.heap[q]? := fun q hq => by
          rcases g6b q (by omega) (by omega) with h | h
          · exact h
          · have := typ q h; omega
        have hA6 : Hid (w6.cell? ⟨D, 0, none⟩ = some (.slice xa xn xc) ∧ w6.cell? ⟨p, 0, none⟩ = some (.slice (some ⟨b, off, none⟩) n cap) ∧ w6.cell? ⟨b, off + k * 2, none⟩ = some (.slice a1 n1 c1) ∧ w6.cell? ⟨b, off + k * 2 + 1, none⟩ = some (.slice a3 n3 c3)) := by
          have hp2 := HSp.out
          exact ⟨k6, (World.cell?_of_block (a := ⟨p, 0, none⟩) (low p (by omega))).trans d0, (World.cell?_of_block (a := ⟨b, off + k * 2, none⟩) (low b hBp)).trans t0, (World.cell?_of_block (a := ⟨b, off + k * 2 + 1, none⟩) (low b hBp)).trans t1⟩
        have HE6 : Aside (RAt Wp D (.slice (some ⟨g6, 0, none⟩) (k + 1) cap6) (.slice ya yn yc) (C.take (k + 1)) H (w6.setCell ⟨D, 0, none⟩ (.slice (some ⟨g6, 0, none⟩) (k + 1) cap6))) := by unfold Aside; rw [ET.out]; exact P1
        clear P1 P2 h6 h7 g6b typ low
        refine hK.out _ _ hA6.out (fun hHeld => ?_)
        clear hK K
        refine till_go 21 (v := .pointer (some ⟨D, 0, none⟩)) rfl (by decide) (by kernel_rfl) (by kernel_rfl) (by kernel_rfl) (fun _ _ _ h => h) (Or.inl ⟨by rfl, fun V _ => (by go_simp)⟩) hHeld ?_
        try simp only [Act.put]
        refine till_last rfl (by kernel_rfl) (by kernel_rfl) (fun K hK => ?_) _
        go_simp
        refine hK.out _ _ ?_
        clear hK K
        clear hA6 HRA H5 HSV pb6 b5
        go_wp2
        go_roundg (gk - 1)
        case measure => omega
        case rel => exact ⟨k + 1, _, by omega, by go_num, HE6⟩
    · obtain rfl : k = n := by omega
      have hkk2 : decide ((k : Int) < (k : Int)) = false := by simp
      have hO := HOk.out
      rw [List.take_of_length_le (by rw [J.cm.1]; omega)] at hO
      obtain ⟨xa, xc, rfl, _⟩ := hO.k.cm
      obtain ⟨xn, hxn⟩ : ∃ xn, xn = C.length := ⟨_, rfl⟩
      rw [← hxn] at hO
      have r2 : wr.heap[p + 1]? = some (.cells #[.slice none 0 0, .slice none 0 0] 35 (0, 0)) := (hbel.block (p + 1) (by have := HSp.out; omega)).trans HQ2.out
      have e0 : wr.cell? ⟨D, 0, none⟩ = some (.slice xa xn xc) := by rw [cell_of_row _ _ _ _ _ _ hO.blk]; rfl
      have e1 : wr.cell? ⟨D, 1, none⟩ = some (.slice ya yn yc) := by rw [cell_of_row _ _ _ _ _ _ hO.blk]; rfl
      have HRO : Aside (RepoOwn ((wr.setCell ⟨p + 1, 0, none⟩ (.slice xa xn xc)).setCell ⟨p + 1, 1, none⟩ (.slice ya yn yc)) w.heap.size (.agg #[.slice xa xn xc, .slice ya yn yc]) C H) := (repoOwn_set r2 hO.k hO.h).lower (by have := HSp.out; have := HP.out; omega)
      obtain ⟨g1, g2, g3⟩ := res_set r2 (.slice xa xn xc) (.slice ya yn yc)
      obtain ⟨X, hX⟩ : ∃ X, X = (wr.setCell ⟨p + 1, 0, none⟩ (.slice xa xn xc)).setCell ⟨p + 1, 1, none⟩ (.slice ya yn yc) := ⟨_, rfl⟩
      rw [← hX] at g1 HRO
      have hbw : Below w.heap.size w wr := hbp.trans (hbel.mono hbp.size)
      have bX : Below w.heap.size w X := by rw [hX]; exact (hbw.setCell (p := ⟨p + 1, 0, none⟩) (by show _ ≤ p + 1; have := HP.out; omega) _).setCell (p := ⟨p + 1, 1, none⟩) (by show _ ≤ p + 1; have := HP.out; omega) _
      have HX9 : Hid (X = (wr.setCell ⟨p + 1, 0, none⟩ (.slice xa xn xc)).setCell ⟨p + 1, 1, none⟩ (.slice ya yn yc)) := hX
      have HX0 : Aside (X.cell? ⟨p + 1, 0, none⟩ = some (.slice xa xn xc)) := by unfold Aside; rw [cell_of_row _ _ _ _ _ _ g1]; rfl
      have HX1 : Aside (X.cell? ⟨p + 1, 1, none⟩ = some (.slice ya yn yc)) := by unfold Aside; rw [cell_of_row _ _ _ _ _ _ g1]; rfl
      have x0 : wr.cell? ⟨p + 1, 0, none⟩ = some (.slice none 0 0) := by rw [cell_of_row _ _ _ _ _ _ r2]; rfl
      have x1 : wr.cell? ⟨p + 1, 1, none⟩ = some (.slice none 0 0) := by rw [cell_of_row _ _ _ _ _ _ r2]; rfl
      have f0 : wr.frozen? ⟨p + 1, 0, none⟩ = false := frozen_of_row _ _ _ _ _ r2
      have f1 : wr.frozen? ⟨p + 1, 1, none⟩ = false := frozen_of_row _ _ _ _ _ r2
      clear g1 g2 g3 hX r2 hO HOk J JV hxn
      go_wp2
      rw [← HX9.out]
      have y0 := HX0.out
      have y1 := HX1.out
      refine bodyPost_ret (v := .agg #[.slice xa xn xc, .slice ya yn yc]) (by simp [results, Tryz.results17, go_sem, y0, y1]) rfl ?_
      exact ⟨_, rfl, HRO.out, bX⟩
theorem Cm.nth {w : World} {a : Option Addr} {n : Nat} {C : List M.Com} (h : Cm w a n C) {k : Nat} (hk : k < n) : ∃ b off, a = some ⟨b, off, none⟩ ∧ b < w.heap.size ∧ ∃ a1 n1 c1 a2 n2 c2, w.cell? ⟨b, off + k * 2, none⟩ = some (.slice a1 n1 c1) ∧ w.cell? ⟨b, off + k * 2 + 1, none⟩ = some (.slice a2 n2 c2) ∧ Rd w a1 n1 (C.getD k ([], [])).1 ∧ Ri w a2 n2 (C.getD k ([], [])).2 ∧ n1 ≤ 9223372036854775807 ∧ n2 ≤ 9223372036854775807 := by
  rcases h.cases with ⟨h0, _⟩ | ⟨b, off, e, _, _, hB, hc⟩
  · omega
  · exact ⟨b, off, e, hB, hc k hk⟩
theorem boxed_moved {w : World} {B D g cap k : Nat} {x : Value} {C : List M.Com} {H : List M.Hd} (n : Int) (h1 : w.heap[D]? = some (.cells #[x, .slice (some ⟨g, 0, none⟩) H.length cap] 35 (0, 0))) (h3 : OwnK w B x C) (h4 : OwnH w B (.slice (some ⟨g, 0, none⟩) H.length cap) H) (hk : k < H.length) :
    (w.setCell ⟨g, k * 2 + 1, none⟩ (.int .i64 n)).heap[D]? = some (.cells #[x, .slice (some ⟨g, 0, none⟩) H.length cap] 35 (0, 0)) ∧ OwnK (w.setCell ⟨g, k * 2 + 1, none⟩ (.int .i64 n)) B x C ∧ OwnH (w.setCell ⟨g, k * 2 + 1, none⟩ (.int .i64 n)) B (.slice (some ⟨g, 0, none⟩) H.length cap) (M.setH H k n) ∧ w.frozen? ⟨g, k * 2 + 1, none⟩ = false ∧ B ≤ g ∧ w.cell? ⟨g, k * 2 + 1, none⟩ = some (.int .i64 (H.getD k M.hd0).2) := by
  have h40 := h4.1
  obtain ⟨⟨hl, hor⟩, hsm⟩ := h4
  rcases hor with ⟨e, _⟩ | ⟨g', cap', cur, e, hb, hh, hc, hm, hz, hx⟩
  · simp at e
  · simp only [Value.slice.injEq, Option.some.injEq, Addr.mk.injEq] at e
    obtain ⟨⟨rfl, _⟩, _, rfl⟩ := e
    have gg := grownBy_set w ⟨g, k * 2 + 1, none⟩ (.int .i64 n)
    have hgD : g ≠ D := fun e => by rw [e, h1] at hh; simp at hh
    refine ⟨?_, h3.elsewhere gg hh (by decide) (by decide) (by decide), ⟨⟨?_, Or.inr ⟨g, cap, cur.setIfInBounds (k * 2 + 1) (.int .i64 n), by simp [M.setH], hb, ?_, by simpa [M.setH] using hc, hm, by simpa using hz, ?_⟩⟩, ?_⟩, frozen_of_row _ _ _ _ _ hh, hb, ?_⟩
    · rw [heap_setCell_other _ _ _ _ (fun e => hgD e.symm)]; exact h1
    · simp [encH_length]
    · exact heap_setCell_same _ _ _ _ _ _ hh
    · unfold M.setH
      rw [encH_set H k n hk, Array.toList_setIfInBounds, List.length_set, List.take_set, hx]
    · intro y hy
      rcases List.mem_or_eq_of_mem_set hy with hy | rfl
      · exact hsm y hy
      · exact hsm (H.getD k M.hd0) (by simp [List.getD, hk])
    · rw [World.ownsRow.cellAt h40 (k * 2 + 1) (by omega), encH_at H k hk]
theorem OwnCo.lower {w : World} {base base' : Nat} {p : Value × Value} {c : M.Com} (h : OwnCo w base p c) (hb : base' ≤ base) : OwnCo w base' p c := ⟨ownsRow_lower h.1 hb, ownsRow_lower h.2.1 hb, h.2.2⟩
theorem boxed_grown {w w' : World} {B Bx D : Nat} {x x' y : Value} {C : List M.Com} {c : M.Com} {q : Value × Value} {H : List M.Hd} {vals : List (Value × Value)} (hB : B ≤ Bx) (hBw : Bx ≤ w.heap.size) (blk : w.heap[D]? = some (.cells #[x, y] 35 (0, 0))) (hH : OwnH w Bx y H) (tmp : Obj) (hl : vals.length = C.length) (h1 : w.ownsRow Bx 54 2 x C.length (encP vals)) (h2 : ∀ i, i < C.length → OwnCo w Bx (vals.getD i vp0) (C.getD i ([], [])))
    (hq : OwnCo w B q c) (h3 : w'.ownsRow Bx 54 2 x' (C.length + 1) (encP vals ++ [q.1, q.2])) (hg : (w.alloc tmp).grownBy w' x.ownBlock) :
    OwnK (w'.setCell ⟨D, 0, none⟩ x') B x' (C ++ [c]) ∧ OwnH (w'.setCell ⟨D, 0, none⟩ x') B y H ∧ (w'.setCell ⟨D, 0, none⟩ x').heap[D]? = some (.cells #[x', y] 35 (0, 0)) ∧ w'.heap[D]? = some (.cells #[x, y] 35 (0, 0)) ∧ Below Bx w w' := by
  have hlt := (Array.getElem?_eq_some_iff.1 blk).1
  have typ : ∀ r, x.ownBlock = some r → ∃ cur, (w.alloc tmp).heap[r]? = some (.cells cur 54 (0, 0)) := by
    intro r e
    rcases (h1.alloc tmp).2 with ⟨rfl, _⟩ | ⟨g, cap, cur', rfl, _, hgb, _⟩
    · simp [Value.ownBlock] at e
    · obtain rfl : g = r := by simpa [Value.ownBlock] using e
      exact ⟨_, hgb⟩
  have other : ∀ e, e ≠ 54 → ∀ r, x.ownBlock = some r → ∀ cur, (w.alloc tmp).heap[r]? ≠ some (.cells cur e (0, 0)) := by
    intro e he r hr cur hc
    obtain ⟨cur', hcur⟩ := typ r hr
    rw [hcur] at hc
    simp at hc
    exact he hc.2.symm
  have hDa : (w.alloc tmp).heap[D]? = some (.cells #[x, y] 35 (0, 0)) := by rw [Below.heap_alloc _ _ _ hlt]; exact blk
  have hne : x.ownBlock ≠ some D := fun e => other _ (by decide) D e _ hDa
  have hbk : w'.heap[D]? = some (.cells #[x, y] 35 (0, 0)) := by
    rw [hg.block D (by simp; omega) (fun e => hne e.symm)]; exact hDa
  have b1 : Below Bx w w' := ((Below.refl _ _).alloc hBw tmp).grown hg (by simp; omega) (fun k e => (World.ownsRow.lt h1 k e).1)
  have hba : Below w.heap.size w (w.alloc tmp) := (Below.refl _ _).alloc (Nat.le_refl _) _
  have K' : OwnK w' B x' (C ++ [c]) := OwnK.append hl (ownsRow_lower (h1.alloc tmp) hB) (fun i hi => ((h2 i hi).lower hB).later hba) (hq.later hba) (ownsRow_lower h3 hB) hg
  have g2 := grownBy_set w' ⟨D, 0, none⟩ x'
  refine ⟨K'.elsewhere g2 hbk (by decide) (by decide) (by decide), (OwnH.elsewhere ⟨ownsRow_elsewhere (hH.later hba).1 hg (other _ (by decide)), hH.2⟩ g2 hbk (by decide)).lower hB, ?_, hbk, b1⟩
  rw [heap_setCell_same _ _ _ _ _ _ hbk]; rfl
set_option maxRecDepth 100000 in
set_option maxHeartbeats 8000000 in
theorem grown_any (a : Option Addr) (n cap : Nat) (C : List M.Com) (a2 : Option Addr) (n2 cap2 : Nat) (H : List M.Hd) (k : Nat) (ra pa : Option Addr) (rn rc pn pc : Nat) (c : M.Com) (B : Nat) (w : World) (hV : RepoV w a n cap C a2 n2 cap2 H) (hz : M.rchk C H = 0) (hk : k < H.length) (hB : B ≤ w.heap.size) (hq : OwnCo w B (.slice ra rn rc, .slice pa pn pc) c) :
    Calls Tryz.prog 98 #[.agg #[.slice a n cap, .slice a2 n2 cap2], .int .i64 (k : Int), .slice ra rn rc, .slice pa pn pc] w fun e w' => ∃ v, e = .returned v ∧ RepoOwn w' B v (C ++ [c]) (M.setH H k C.length) ∧ Below w.heap.size w w' := by
  obtain ⟨i1, hi1, hy0, hy1, hy2⟩ := info_parts infoCommit
  obtain ⟨p, hp⟩ : ∃ p, p = w.heap.size := ⟨_, rfl⟩
  obtain ⟨W, hW⟩ : ∃ W, W = (w.alloc (.cells #[.slice a n cap, .slice a2 n2 cap2] 35)).alloc (.cells #[.slice none 0 0, .slice none 0 0] 35) := ⟨_, rfl⟩
  have hb : Below w.heap.size w W := by rw [hW]; exact ((Below.refl _ _).alloc (Nat.le_refl _) _).alloc (by simp) _
  have hsz : W.heap.size = p + 2 := by rw [hW, hp]; simp
  have q2 : W.heap[p + 1]? = some (.cells #[.slice none 0 0, .slice none 0 0] 35 (0, 0)) := by
    rw [hW, show p + 1 = (w.alloc (.cells #[.slice a n cap, .slice a2 n2 cap2] 35)).heap.size by rw [hp]; simp]
    exact heap_alloc_new _ _
  have KO : Hid (Calls Tryz.prog 17 #[.agg #[.slice a n cap, .slice a2 n2 cap2]] W fun e w' => ∃ v, e = .returned v ∧ RepoOwn w' W.heap.size v C H ∧ Below W.heap.size W w') := ownRepo_any a n cap C a2 n2 cap2 H W (hV.later hb) hz
  have HQ : Hid (OwnCo W B (.slice ra rn rc, .slice pa pn pc) c) := hq.later hb
  have HQ2 : Hid (W.heap[p + 1]? = some (.cells #[.slice none 0 0, .slice none 0 0] 35 (0, 0))) := q2
  have hC14 : C.length ≤ 14 := (M.dchk_zero (M.rchk_zero hz).1).1
  have HW : Hid (W = (w.alloc (.cells #[.slice a n cap, .slice a2 n2 cap2] 35)).alloc (.cells #[.slice none 0 0, .slice none 0 0] 35)) := hW
  have HP : Aside (p = w.heap.size) := hp
  have HSz : Aside (W.heap.size = p + 2) := hsz
  clear hW hp hV hz hq q2 hsz
  go_enter Tryz.func98, Tryz.ntmps98
  go_wp2_with fail
  rw [← HW.out, ← HP.out]
  refine KO.out.mono ?_
  rintro e w1 ⟨v, rfl, ⟨x, y, rfl, ok, oh⟩, b1⟩
  obtain ⟨xa, xc, rfl, _⟩ := ok.cm
  obtain ⟨g, yc, rfl⟩ : ∃ g yc, y = .slice (some ⟨g, 0, none⟩) H.length yc := by
    rcases oh.1.2 with ⟨e, e2⟩ | ⟨g, cap, _, e, _⟩
    · omega
    · exact ⟨g, cap, e⟩
  obtain ⟨D, hD⟩ : ∃ D, D = w1.heap.size := ⟨_, rfl⟩
  obtain ⟨m, hm⟩ : ∃ m, m = C.length := ⟨_, rfl⟩
  obtain ⟨mh, hmh⟩ : ∃ mh, mh = H.length := ⟨_, rfl⟩
  obtain ⟨W2, hW2⟩ : ∃ W2, W2 = w1.alloc (.cells #[.slice xa m xc, .slice (some ⟨g, 0, none⟩) mh yc] 35) := ⟨_, rfl⟩
  have bW2 : Below w1.heap.size w1 W2 := by rw [hW2]; exact (Below.refl _ _).alloc (Nat.le_refl _) _
  have blk : W2.heap[D]? = some (.cells #[.slice xa m xc, .slice (some ⟨g, 0, none⟩) mh yc] 35 (0, 0)) := by rw [hW2, hD]; exact heap_alloc_new _ _
  have b2 : Below W.heap.size W W2 := b1.trans (bW2.mono b1.size)
  obtain ⟨vals, hl, hrow, hel⟩ := ok.later bW2
  rw [← hm] at hrow
  have oh2 := oh.later bW2
  have k0 : W2.cell? ⟨D, 0, none⟩ = some (.slice xa m xc) := by rw [cell_of_row _ _ _ _ _ _ blk]; rfl
  have hDs : D < W2.heap.size := (Array.getElem?_eq_some_iff.1 blk).1
  have HRA : Hid ((W2.alloc (.cells #[.slice ra rn rc, .slice pa pn pc] 54)).ownsRow W.heap.size 54 2 (.slice xa m xc) m (encP vals)) := hrow.alloc _
  have hWD : W.heap.size ≤ D := by rw [hD]; exact b1.size
  have hBW : B ≤ W.heap.size := Nat.le_trans hB hb.size
  have HPut : Hid (∀ x' w', w'.ownsRow W.heap.size 54 2 x' (m + 1) (encP vals ++ [.slice ra rn rc, .slice pa pn pc]) → (W2.alloc (.cells #[.slice ra rn rc, .slice pa pn pc] 54)).grownBy w' (Value.slice xa m xc).ownBlock → OwnK (w'.setCell ⟨D, 0, none⟩ x') B x' (C ++ [c]) ∧ OwnH (w'.setCell ⟨D, 0, none⟩ x') B (.slice (some ⟨g, 0, none⟩) mh yc) H ∧ (w'.setCell ⟨D, 0, none⟩ x').heap[D]? = some (.cells #[x', .slice (some ⟨g, 0, none⟩) mh yc] 35 (0, 0)) ∧ w'.heap[D]? = some (.cells #[.slice xa m xc, .slice (some ⟨g, 0, none⟩) mh yc] 35 (0, 0)) ∧ Below W.heap.size W2 w') := fun x' w' h3 hg =>
    boxed_grown (q := (.slice ra rn rc, .slice pa pn pc)) hBW b2.size blk (by rw [hmh]; exact oh2) _ hl (by rw [← hm]; exact hrow) hel (HQ.out.later b2) (by rw [← hm]; exact h3) hg
  rw [← hm, ← hmh]
  have hgW : W.heap.size ≤ g := (World.ownsRow.lt oh.1 g rfl).1
  have hkm : k < mh := by rw [hmh]; exact hk
  have HM : Aside (m = C.length) := hm
  have HMh : Aside (mh = H.length) := hmh
  have HW2 : Hid (W2 = w1.alloc (.cells #[.slice xa m xc, .slice (some ⟨g, 0, none⟩) mh yc] 35)) := hW2
  have HD : Aside (D = w1.heap.size) := hD
  have hm14 : m ≤ 14 := by rw [hm]; exact hC14
  have HCN : Hid (∀ j u, [Value.slice ra rn rc, .slice pa pn pc][j]? = some u → (W2.alloc (.cells #[.slice ra rn rc, .slice pa pn pc] 54)).cell? ((⟨w1.heap.size + 1, 0, none⟩ : Addr).add j) = some u) := by
    unfold Hid
    rw [show w1.heap.size + 1 = W2.heap.size by rw [hW2]; simp]
    exact cell_pair_new _ _ _ _
  have HBs : Hid (W.heap.size ≤ (W2.alloc (.cells #[.slice ra rn rc, .slice pa pn pc] 54)).heap.size) := by have := b2.size; unfold Hid; simp; omega
  clear hW2 hD ok oh oh2 blk hl hrow hel hm hmh b1 bW2 KO
  go_wp2_with (at_builtin; refine wpList_append_own _ rfl _ _ 32 rfl W.heap.size 54 i1 (.agg #[.slice none 0 0, .slice none 0 0]) 2 48 Tryz.underlying32 hi1 hy0 hy1 hy2 rfl (by decide) _ m (encP vals) rfl (by rw [← HW2.out]; exact HRA.out) ⟨w1.heap.size + 1, 0, none⟩ 1 1 [.slice ra rn rc, .slice pa pn pc] rfl rfl (by rw [← HW2.out]; exact HCN.out) (by simp [Value.oneCell']) (by simp only [maxLen]; omega) (by omega) (by rw [← HW2.out]; exact HBs.out) ?_)
  rw [← HW2.out, ← HD.out]
  intro v' w3 h6 h7 _
  obtain ⟨g', cap', rfl⟩ := ownsRow_succ h6
  obtain ⟨P1, P2, P3, P4, P5⟩ := HPut.out _ w3 h6 h7
  have k3 : w3.cell? ⟨D, 0, none⟩ = some (.slice xa m xc) := by rw [cell_of_row _ _ _ _ _ _ P4]; rfl
  have f3 : w3.frozen? ⟨D, 0, none⟩ = false := frozen_of_row _ _ _ _ _ P4
  obtain ⟨W4, hW4⟩ : ∃ W4, W4 = w3.setCell ⟨D, 0, none⟩ (.slice (some ⟨g', 0, none⟩) (m + 1) cap') := ⟨_, rfl⟩
  rw [← hW4] at P1 P2 P3
  rw [HMh.out] at P2 P3
  obtain ⟨Q1, Q2, Q3, Q4, Q5, Q6⟩ := boxed_moved (k := k) ((m : Nat) : Int) P3 P1 P2 hk
  rw [← HMh.out] at Q1 Q3 P3
  obtain ⟨W5, hW5⟩ : ∃ W5, W5 = W4.setCell ⟨g, k * 2 + 1, none⟩ (.int .i64 (m : Int)) := ⟨_, rfl⟩
  rw [← hW5] at Q1 Q2 Q3
  have b4 : Below W.heap.size W W4 := by rw [hW4]; exact (b2.trans P5).setCell (p := ⟨D, 0, none⟩) hWD _
  have b5 : Below W.heap.size W W5 := by rw [hW5]; exact b4.setCell (p := ⟨g, k * 2 + 1, none⟩) hgW _
  have d0 : W4.cell? ⟨D, 0, none⟩ = some (.slice (some ⟨g', 0, none⟩) (m + 1) cap') := by rw [cell_of_row _ _ _ _ _ _ P3]; rfl
  have d1 : W4.cell? ⟨D, 1, none⟩ = some (.slice (some ⟨g, 0, none⟩) mh yc) := by rw [cell_of_row _ _ _ _ _ _ P3]; rfl
  have e0 : W5.cell? ⟨D, 0, none⟩ = some (.slice (some ⟨g', 0, none⟩) (m + 1) cap') := by rw [cell_of_row _ _ _ _ _ _ Q1]; rfl
  have e1 : W5.cell? ⟨D, 1, none⟩ = some (.slice (some ⟨g, 0, none⟩) mh yc) := by rw [cell_of_row _ _ _ _ _ _ Q1]; rfl
  have r2 : W5.heap[p + 1]? = some (.cells #[.slice none 0 0, .slice none 0 0] 35 (0, 0)) := (b5.block (p + 1) (by have := HSz.out; omega)).trans HQ2.out
  have hbw : Below w.heap.size w W5 := hb.trans (b5.mono hb.size)
  have HRO : Aside (RepoOwn ((W5.setCell ⟨p + 1, 0, none⟩ (.slice (some ⟨g', 0, none⟩) (m + 1) cap')).setCell ⟨p + 1, 1, none⟩ (.slice (some ⟨g, 0, none⟩) mh yc)) B (.agg #[.slice (some ⟨g', 0, none⟩) (m + 1) cap', .slice (some ⟨g, 0, none⟩) mh yc]) (C ++ [c]) (M.setH H k C.length)) := by rw [← HM.out]; exact repoOwn_set r2 Q2 Q3
  obtain ⟨g1, g2, g3⟩ := res_set r2 (.slice (some ⟨g', 0, none⟩) (m + 1) cap') (.slice (some ⟨g, 0, none⟩) mh yc)
  obtain ⟨X, hX⟩ : ∃ X, X = (W5.setCell ⟨p + 1, 0, none⟩ (.slice (some ⟨g', 0, none⟩) (m + 1) cap')).setCell ⟨p + 1, 1, none⟩ (.slice (some ⟨g, 0, none⟩) mh yc) := ⟨_, rfl⟩
  rw [← hX] at g1 HRO
  have bX : Below w.heap.size w X := by rw [hX]; exact (hbw.setCell (p := ⟨p + 1, 0, none⟩) (by show _ ≤ p + 1; have := HP.out; omega) _).setCell (p := ⟨p + 1, 1, none⟩) (by show _ ≤ p + 1; have := HP.out; omega) _
  have HX9 : Hid (X = (W5.setCell ⟨p + 1, 0, none⟩ (.slice (some ⟨g', 0, none⟩) (m + 1) cap')).setCell ⟨p + 1, 1, none⟩ (.slice (some ⟨g, 0, none⟩) mh yc)) := hX
  have HW4 : Hid (W4 = w3.setCell ⟨D, 0, none⟩ (.slice (some ⟨g', 0, none⟩) (m + 1) cap')) := hW4
  have HW5 : Hid (W5 = W4.setCell ⟨g, k * 2 + 1, none⟩ (.int .i64 (m : Int))) := hW5
  have HX0 : Aside (X.cell? ⟨p + 1, 0, none⟩ = some (.slice (some ⟨g', 0, none⟩) (m + 1) cap')) := by unfold Aside; rw [cell_of_row _ _ _ _ _ _ g1]; rfl
  have HX1 : Aside (X.cell? ⟨p + 1, 1, none⟩ = some (.slice (some ⟨g, 0, none⟩) mh yc)) := by unfold Aside; rw [cell_of_row _ _ _ _ _ _ g1]; rfl
  have HQ4 : Hid (W4.frozen? ⟨g, k * 2 + 1, none⟩ = false) := Q4
  have HQ6 : Hid (W4.cell? ⟨g, k * 2 + 1, none⟩ = some (.int .i64 (H.getD k M.hd0).2)) := Q6
  have HE : Hid (W5.cell? ⟨D, 0, none⟩ = some (.slice (some ⟨g', 0, none⟩) (m + 1) cap') ∧ W5.cell? ⟨D, 1, none⟩ = some (.slice (some ⟨g, 0, none⟩) mh yc)) := ⟨e0, e1⟩
  have HR2 : Hid (W5.heap[p + 1]? = some (.cells #[.slice none 0 0, .slice none 0 0] 35 (0, 0))) := r2
  have HDD : Hid (W4.cell? ⟨D, 0, none⟩ = some (.slice (some ⟨g', 0, none⟩) (m + 1) cap') ∧ W4.cell? ⟨D, 1, none⟩ = some (.slice (some ⟨g, 0, none⟩) mh yc)) := ⟨d0, d1⟩
  have hmw : IntKind.i64.wrap (((m + 1 : Nat) : Int) - 1) = (m : Int) := by rw [IntKind.wrap_i64]; omega
  have hki : (k : Int) < (mh : Int) := by omega
  have d0' := HDD.out.1
  have d1' := HDD.out.2
  have q4' := HQ4.out
  have q6' := HQ6.out
  rw [hW4] at d0' d1' q4' q6'
  have e0' := HE.out.1
  have e1' := HE.out.2
  rw [hW5, hW4] at e0' e1'
  have x0' : W5.cell? ⟨p + 1, 0, none⟩ = some (.slice none 0 0) := by rw [cell_of_row _ _ _ _ _ _ r2]; rfl
  have x1' : W5.cell? ⟨p + 1, 1, none⟩ = some (.slice none 0 0) := by rw [cell_of_row _ _ _ _ _ _ r2]; rfl
  have f0' : W5.frozen? ⟨p + 1, 0, none⟩ = false := frozen_of_row _ _ _ _ _ r2
  have f1' : W5.frozen? ⟨p + 1, 1, none⟩ = false := frozen_of_row _ _ _ _ _ r2
  rw [hW5, hW4] at x0' x1' f0' f1'
  clear P1 P2 P3 P4 P5 Q1 Q2 Q3 Q4 Q5 Q6 h6 h7 hW4 hW5 hX g1 g2 g3 d0 d1 e0 e1 r2 HPut HRA HCN HBs k0 b2 b4 b5
  go_wp2_with fail
  rw [← HW4.out, ← HW5.out, ← HX9.out]
  have y0 := HX0.out
  have y1 := HX1.out
  refine bodyPost_ret (v := .agg #[.slice (some ⟨g', 0, none⟩) (m + 1) cap', .slice (some ⟨g, 0, none⟩) mh yc]) (by simp [results, Tryz.results98, go_sem, y0, y1]) rfl ?_
  exact ⟨_, rfl, HRO.out, bX⟩
end Go.Proofs.YtcgpgflnihjpiagGreat
