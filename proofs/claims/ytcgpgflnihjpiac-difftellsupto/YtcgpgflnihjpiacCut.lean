/- chunk.Cut. -/
import Derived.Test.YtcgpgflnihjpiacIter
import Derived.Maps.AppendAt
namespace Go.Proofs.Ytcgpgflnihjpiac
open Go.RowKit Go.Shelf
attribute [local go_sem] Oper.semAt_some

theorem infoRows : (Try.prog.info? 32).map (fun i => (i.zero, i.size, i.bytes)) = some (some (.slice none 0 0), 1, 24) := by kernel_rfl

theorem Own.mono {w : World} {base base' : Nat} {v : Value} {l : List (Int × Int)} (h : Own w base v l) (hb : base' ≤ base) : Own w base' v l := by
  obtain ⟨h1, h2⟩ := h
  refine ⟨h1, ?_⟩
  rcases h2 with h2 | ⟨g, cap, cur, hv, hg, r⟩
  · exact Or.inl h2
  · exact Or.inr ⟨g, cap, cur, hv, Nat.le_trans hb hg, r⟩
theorem ownsRow_mono {w : World} {base base' : Nat} {e : TypeId} {size : Nat} {v : Value} {n : Nat} {xs : List Value} (h : w.ownsRow base e size v n xs) (hb : base' ≤ base) : w.ownsRow base' e size v n xs := by
  obtain ⟨h1, h2⟩ := h
  refine ⟨h1, ?_⟩
  rcases h2 with h2 | ⟨g, cap, cur, hv, hg, r⟩
  · exact Or.inl h2
  · exact Or.inr ⟨g, cap, cur, hv, Nat.le_trans hb hg, r⟩

/-- The chunks LL lie in rows of the call's own. -/
def OwnLL (W : World) (m : Nat) (v : Value) (LL : List (List (Int × Int))) : Prop :=
  ∃ vals, W.ownsRow m 32 1 v LL.length vals ∧ ∀ i u, vals[i]? = some u → Own W m u (LL.getD i [])

theorem OwnLL.nil (W : World) (m : Nat) : OwnLL W m (.slice none 0 0) [] := ⟨[], World.ownsRow_nil _ _ _ _, fun i u h => by simp at h⟩

theorem ownsRow_other {W W' : World} {base : Nat} {e : TypeId} {size : Nat} {v : Value} {n : Nat} {xs : List Value} (h : W.ownsRow base e size v n xs) {row : Option Nat} (hg : W.grownBy W' row)
    (hrow : ∀ r, row = some r → ∀ cur, W.heap[r]? ≠ some (.cells cur e (0, 0))) : W'.ownsRow base e size v n xs := by
  refine h.kept hg ?_
  rcases h.2 with ⟨rfl, _⟩ | ⟨g, cap, cur, rfl, _, hgb, _⟩
  · exact .inl rfl
  · exact .inr fun e' => hrow g (by simpa [Value.ownBlock] using e'.symm) cur hgb

theorem OwnLL.kept {W W' : World} {m : Nat} {v : Value} {LL : List (List (Int × Int))} (h : OwnLL W m v LL) {row : Option Nat} (hg : W.grownBy W' row)
    (hrow : ∀ r, row = some r → ∀ cur, W.heap[r]? ≠ some (.cells cur 32 (0, 0)) ∧ W.heap[r]? ≠ some (.cells cur 56 (0, 0))) : OwnLL W' m v LL := by
  obtain ⟨vals, h1, h2⟩ := h
  exact ⟨vals, ownsRow_other h1 hg fun r e cur => (hrow r e cur).1, fun i u hu => ownsRow_other (h2 i u hu) hg fun r e cur => (hrow r e cur).2⟩

theorem OwnLL.mono {w : World} {base base' : Nat} {v : Value} {LL : List (List (Int × Int))} (h : OwnLL w base v LL) (hb : base' ≤ base) : OwnLL w base' v LL := by
  obtain ⟨vals, h1, h2⟩ := h
  exact ⟨vals, ownsRow_mono h1 hb, fun i u hu => (h2 i u hu).mono hb⟩

/-- One chunk more. -/
theorem OwnLL.append {W W1 : World} {m : Nat} {v v' u : Value} {LL : List (List (Int × Int))} {l : List (Int × Int)} {vals : List Value} {tmp : Obj} (h1 : W.ownsRow m 32 1 v LL.length vals) (h2 : ∀ i u, vals[i]? = some u → Own W m u (LL.getD i []))
    (hu : Own W m u l) (h3 : W1.ownsRow m 32 1 v' (LL.length + 1) (vals ++ [u])) (hg : (W.alloc tmp).grownBy W1 v.ownBlock) : OwnLL W1 m v' (LL ++ [l]) := by
  have hvl : vals.length = LL.length := by have := h1.1; omega
  have hrow : ∀ r, v.ownBlock = some r → ∀ cur, (W.alloc tmp).heap[r]? ≠ some (.cells cur 56 (0, 0)) := by
    intro r e cur he
    rcases (h1.alloc tmp).2 with ⟨rfl, _⟩ | ⟨g, cap, cur', rfl, _, hgb, _⟩
    · simp [Value.ownBlock] at e
    · obtain rfl : g = r := by simpa [Value.ownBlock] using e
      rw [hgb] at he
      simp at he
  refine ⟨vals ++ [u], by simpa using h3, fun i x hx => ?_⟩
  by_cases hi : i < LL.length
  · rw [List.getElem?_append_left (by omega)] at hx
    have e : (LL ++ [l]).getD i [] = LL.getD i [] := by simp [List.getD, List.getElem?_append_left hi]
    rw [e]
    exact ownsRow_other ((h2 i x hx).alloc tmp) hg hrow
  · have hi2 : i = LL.length := by
      have := (List.getElem?_eq_some_iff.1 hx).1
      simp at this; omega
    subst hi2
    have e : (LL ++ [l]).getD LL.length [] = l := by simp [List.getD]
    rw [e]
    rw [List.getElem?_append_right (by omega)] at hx
    simp [hvl] at hx
    subst hx
    exact ownsRow_other (World.ownsRow.alloc hu tmp) hg hrow

theorem cut_end {W W2 W3 : World} {B m : Nat} {v v' u : Value} {LL : List (List (Int × Int))} {xr : List (Int × Int)} {vals : List Value} {tmp : Obj} (hWsz : m ≤ W.heap.size) (hBm : B < m) (hv2 : Boxed W2 B 58 v) (hb : Below W.heap.size W W2)
    (hrow : W2.ownsRow m 32 1 v LL.length vals) (hel : ∀ i u, vals[i]? = some u → Own W2 m u (LL.getD i [])) (hu : Own W2 m u xr)
    (hown' : W3.ownsRow m 32 1 v' (LL.length + 1) (vals ++ [u])) (hgrow : (W2.alloc tmp).grownBy W3 v.ownBlock) :
    Boxed W3 B 58 v ∧ (Boxed (W3.setCell ⟨B, 0, none⟩ v') B 58 v' ∧ OwnLL (W3.setCell ⟨B, 0, none⟩ v') m v' (LL ++ [xr])) ∧ KeepBut B m W (W3.setCell ⟨B, 0, none⟩ v') ∧ KeepsFrom m W (W3.setCell ⟨B, 0, none⟩ v') := by
  obtain ⟨k1, k2, k3, k4, k5⟩ := hv2.appended (n₀ := B) (by decide) (ownsRow_mono hrow (by omega)) (by have := hb.size; omega) (Nat.le_refl _) (ownsRow_mono hown' (by omega)) hgrow
  have hLL : OwnLL W3 m v' (LL ++ [xr]) := OwnLL.append hrow hel hu hown' hgrow
  refine ⟨k1, ⟨k2, hLL.kept (grownBy_setCell' W3 B v') fun r e cur => ?_⟩, ⟨(hb.mono (by omega)).trans k5, fun k h1 h2 => ?_⟩, ?_⟩
  · cases e
    have hk1 : W3.heap[B]? = some (.cells #[v] 58 (0, 0)) := k1
    rw [hk1]
    exact ⟨by simp, by simp⟩
  · rw [Below.heap_setCell _ _ _ k (by show k ≠ B; omega), hgrow.block k (by have := hb.size; simp; omega) (fun e => ?_), Below.heap_alloc _ _ _ (by have := hb.size; omega), hb.block k (by omega)]
    have := (World.ownsRow.lt hrow k e.symm).1
    omega
  · exact KeepsFrom.trans ⟨hb.size, fun k o _ hk ho => (hb.block k (Array.getElem?_eq_some_iff.1 hk).1).trans hk⟩ (k4.from m)

/-- append onto a row of the call's own, as one step of a region that draws its order, inside a fence. -/
theorem stepIn_append_own {F : Fence} {n : Nat} {P : Program} {w : World} {ops : Array Oper} {o : Oper} {a : Act} {K : Act → World → Prop} {Q : Exit → Act → World → Prop} {E : Prop}
    (hg : o.guard = none) (s x : Operand) (t : TypeId) (hop : o.op = Op.call { callee := Callee.builtin Builtin.append, args := #[s, x], argTypes := #[t, t] })
    (base : Nat) (e : TypeId) (i : TypeInfo) (z : Value) (size bytes : Nat) (h1 : P.underlying t = some (.slice e)) (h2 : P.info? e = some i) (h3 : i.zero = some z) (h4 : i.size = size) (h5 : i.bytes = bytes) (h6 : z.cells.size = size) (h7 : 0 < size)
    (v : Value) (k : Nat) (xs : List Value) (hs : a.eval s = v) (hown : w.ownsRow base e size v k xs) (ad : Addr) (m c : Nat) (news : List Value) (hx : a.eval x = .slice (some ad) m c) (hn : news.length = m * size)
    (hc : ∀ j u, news[j]? = some u → w.cell? (ad.add j) = some u) (h1c : ∀ u ∈ news, u.oneCell' = true) (b1 : k + m ≤ maxLen) (b2 : (k + m) * bytes ≤ 140737488355328) (b3 : base ≤ w.heap.size)
    (hK : ∀ v' w', w'.ownsRow base e size v' (k + m) (xs ++ news) → w.grownBy w' v.ownBlock → K (a.put o.dst v') w') :
    if Region.wanted o (yielded ops a.tmps) = true then Oper.wpIn F n P o a w K Q else E := by
  have hw : Region.wanted o (yielded ops a.tmps) = true := by simp [Region.wanted, hg]
  rw [if_pos hw]
  obtain ⟨v', w', hrun, r1, r2, r3⟩ := run_append_own (P := P) w base t o.type e i z size bytes h1 h2 h3 h4 h5 h6 h7 v k xs hown ad m c news hn hc h1c b1 b2 b3
  unfold Oper.wpIn
  refine ⟨?_, ?_⟩
  · simp [Oper.about, hop, resolve, Target.leads, Sem.run_pure]
  · rw [Oper.semAt_plain F _ _ (by rw [hop]; intro c hc'; cases hc')]
    unfold execOp
    simp only [hop, resolve, invoke, builtin, Sem.run_bind, Sem.run_pure, Result.andThen_ok, List.map_toArray, List.map_cons, List.map_nil, hs, hx, hrun]
    exact hK v' w' r1 r2

theorem keepBut_b {w : World} {B m : Nat} (hB : B ≤ w.heap.size) (hm : m ≤ w.heap.size) (W : World) (l : Nat) (o o' : Obj) (hl : w.heap.size ≤ l) (h : W.heap[l]? = some o) (h1 : o.isCells = false) (h2 : o.isWalk = false) : KeepBut B m W (W.putObj l o') :=
  ⟨belowK_b hB W l o o' hl h h1 h2, fun k _ hk => World.putObj_heap_other (by omega)⟩

set_option maxRecDepth 100000 in
set_option maxHeartbeats 8000000 in
theorem cut_some (b off n cap : Nat) (l : List (Int × Int)) (level : Int) (w : World) (h : Rd w (some ⟨b, off, none⟩) n l) (hcap : n ≤ cap) (hcm : cap ≤ maxLen) (h0 : M.chk l = 0) (hl0 : 0 ≤ level) (hl1 : level ≤ 9) (hB : b < w.heap.size) :
    Calls Try.prog 38 #[.slice (some ⟨b, off, none⟩) n cap, .int .i64 level] w fun e w' => ∃ v, e = .returned (.tuple #[v, .int .i64 0]) ∧ OwnLL w' w.heap.size v (M.cut level l) ∧ Below w.heap.size w w' := by
  have h40 : n ≤ 40 := by rw [← h.1]; exact ((M.chk_zero l).1 h0).1
  have H := check_any (some ⟨b, off, none⟩) n cap l w h (by omega)
  rw [h0] at H
  have HH : Aside (Calls Try.prog 36 #[.slice (some ⟨b, off, none⟩) n cap] w fun e w' => e = .returned (.int .i64 0) ∧ Below w.heap.size w w') := H
  have HR : Aside (Rd w (some ⟨b, off, none⟩) n l) := h
  clear H h h0
  obtain ⟨i0, hi, hz0, hz1, hz2⟩ := info_parts infoRows
  refine (callsIn_wide (n := 9)).1 ?_
  refine callsIn_of_wp_marks Try.func38 rfl trivial ?_ rfl
  simp only [Try.ntmps38, List.size_toArray, List.length_cons, List.length_nil, Nat.reduceAdd, Nat.reduceSub, Array.replicate_succ, Array.replicate_zero, List.push_toArray, List.append_toArray, List.nil_append, List.cons_append]
  gi_wp2_with (first | (refine ⟨trivial, ?_⟩; gi_at_call 36; refine (callsIn_wide.2 HH.out).mono ?_; rintro e w1 ⟨rfl, hb1⟩) | (refine ⟨trivial, ?_⟩; gi_at_call 64; refine (callsIn_wide.2 (level_yes level _ hl0 hl1)).mono ?_; rintro e w1' ⟨rfl, rfl⟩) | (refine ⟨trivial, ?_⟩; gi_at_call 65; refine (callsIn_wide.2 (chunks_any (some ⟨b, off, none⟩) n cap level _)).mono ?_; rintro e w2 ⟨rfl, rfl⟩))
  obtain ⟨B, hBe⟩ : ∃ B, B = w1'.heap.size := ⟨_, rfl⟩
  obtain ⟨W0, hW0⟩ : ∃ W0, W0 = ((w1'.alloc (.cells #[.slice none 0 0] 58)).alloc (.cells #[.slice (some ⟨b, off, none⟩) n cap] 32)).alloc (.cells #[.int .i64 level] 3) := ⟨_, rfl⟩
  have hsz : W0.heap.size = B + 3 := by rw [hW0, hBe]; simp
  have hw0 : Below B w1' W0 := by rw [hW0, hBe]; exact (((Below.refl _ _).alloc (Nat.le_refl _) _).alloc (by simp) _).alloc (by simp; omega) _
  have hbox : Boxed W0 B 58 (.slice none 0 0) := by rw [hW0, hBe]; exact ((Boxed.new w1' _ _).alloc _).alloc _
  have hcp : W0.cell? ⟨B + 1, 0, none⟩ = some (.slice (some ⟨b, off, none⟩) n cap) := by rw [hW0, hBe]; simp [go_sem]
  have hcq : W0.cell? ⟨B + 1 + 1, 0, none⟩ = some (.int .i64 level) := by rw [hW0, hBe]; simp [go_sem]
  have hbB : b < B := by rw [hBe]; exact Nat.lt_of_lt_of_le hB hb1.size
  have HR1 := HR.out.below hb1 (Nat.le_refl _)
  have hbw : Below w.heap.size w W0 := hb1.trans (hw0.mono (by rw [hBe]; exact hb1.size))
  have hbB0 : w.heap.size ≤ B := by rw [hBe]; exact hb1.size
  rw [← hW0, ← hBe]
  clear hW0 hBe hb1 HR HH
  refine wpIn_rangeFunc_ownG rfl (by omega) (gf := 86) (lb := #[.pointer (some ⟨B + 1, 0, none⟩), .pointer (some ⟨B + 1 + 1, 0, none⟩)]) rfl trivial (enters_of Try.func86 (by kernel_rfl) rfl)
    (chunks_stops 8 (B + 1) (B + 1 + 1) b off n cap B (B + 3) l level w1' W0 (by omega) h40 hcap hcm hbB hw0 HR1 hcp hcq (by omega) (by omega) (by omega) (by omega) (by omega)) (fun h k => KeepBut.trans h k) (keepBut_b (by omega) (by omega)) (Below.refl _ _) (fun _ => rfl)
    (fun pre W => (∃ v, Boxed W B 58 v ∧ OwnLL W (B + 3) v (pre.map Piece.rows)) ∧ KeepBut B (B + 3) W0 W)
    (fun _ _ _ => False) ?hI (fun _ _ _ _ _ hs _ _ => hs) ⟨⟨_, hbox, OwnLL.nil _ _⟩, KeepBut.refl _ _ _⟩
    (fun x => { tmps := #[.slice (some ⟨b, off, none⟩) n cap, .int .i64 level, undef, undef, .slice none 0 0, .int .i64 0, .int .i64 0, .pointer (some ⟨B, 0, none⟩), Piece.val x, .slice (some ⟨b, off, none⟩) n cap, .int .i64 0, .int .i64 0, .bool false, undef, .int .i64 level, .bool true, .bool false, .slice (some ⟨b, off, none⟩) n cap, .int .i64 level, .func (.func 86) #[] #[.pointer (some ⟨B + 1, 0, none⟩), .pointer (some ⟨B + 1 + 1, 0, none⟩)], Piece.val x, undef, undef, undef, undef, undef, undef], defers := [] }) ?assign ?body ?done ?stop
  case hI =>
    rintro s X Y row ⟨⟨v, hv, hLL⟩, hk⟩ hg hr
    refine ⟨⟨v, hv.kept hg (fun e => ?_), hLL.kept hg fun r e cur => ⟨fun he => ?_, fun he => ?_⟩⟩, hk.trans ⟨(Below.refl _ _).grown hg (by have := hk.1.size; omega) (fun k e => by have := (hr k e).1; omega), fun k h1 h2 => hg.block k (by have := hk.1.size; omega) (fun e => by have := (hr k e.symm).1; omega)⟩⟩
    · obtain ⟨_, o, ho, hc⟩ := hr B e.symm
      rw [show X.heap[B]? = _ from hv] at ho; cases ho; cases hc
    · obtain ⟨_, o, ho, hc⟩ := hr r e
      rw [he] at ho; cases ho; cases hc
    · obtain ⟨_, o, ho, hc⟩ := hr r e
      rw [he] at ho; cases ho; cases hc
  case assign =>
    intro lp x W K hK
    gi_wp2
    exact hK
  case body =>
    rintro lp pre x W ⟨⟨v, hv, hLL⟩, hk⟩ hlt
    obtain ⟨⟨⟨⟨xa, xn, xc⟩, xr⟩, ⟨xb, xo, hxa, hxb⟩, ⟨hxR, hxl, hxm, _⟩, hx40⟩, hx⟩ : ∃ y, y = x := ⟨x, rfl⟩
    have hxa' : xa = some ⟨xb, xo, none⟩ := hxa
    subst hxa'
    have e1 : Piece.val x = .slice (some ⟨xb, xo, none⟩) xn xc := by rw [← hx]; rfl
    have e2 : x.rows = xr := by rw [← hx]; rfl
    rw [e1]
    have hxR' : Rd w1' (some ⟨xb, xo, none⟩) xn xr := hxR
    have hx40' : xn ≤ 40 := hx40
    have hxb' : xb < B := hxb
    have hRW : Aside (Rd W (some ⟨xb, xo, none⟩) xn xr) := hxR'.keep hxb' (hw0.trans hk.1)
    have hcv := hv.cell
    have hfv := hv.frozen
    gi_wp2
    have HCL : Aside (Calls Try.prog 66 #[.slice (some ⟨xb, xo, none⟩) xn xc] W.drew fun e W2 => ∃ ua un uc, e = .returned (.slice ua un uc) ∧ Hid (Own W2 (B + 3) (.slice ua un uc) xr ∧ OwnLL W2 (B + 3) v (pre.map Piece.rows) ∧ Boxed W2 B 58 v ∧ Below W.heap.size W W2) ∧ W2.cell? ⟨B, 0, none⟩ = some v ∧ W2.frozen? ⟨B, 0, none⟩ = false) := by
      refine (clone_some xb xo xn xc xr W.drew (by omega) (hRW.out.below (w' := W.drew) ((Below.refl _ _).drew) (Nat.le_refl _))).mono ?_
      rintro e W2 ⟨u, rfl, hu, hb⟩
      have hb' : Below W.heap.size W W2 := ((Below.refl W.heap.size W).drew).trans hb
      have hv2 : Boxed W2 B 58 v := hv.kept (grown_none hb') (by simp)
      obtain ⟨ua, uc, rfl, _⟩ := hu.rd
      have hWsz : B + 3 ≤ W.heap.size := by have := hk.1.size; omega
      exact ⟨ua, _, uc, rfl, ⟨hu.mono hWsz, hLL.kept (grown_none hb') (fun r e => by cases e), hv2, hb'⟩, hv2.cell, hv2.frozen⟩
    refine wpIn_region_any (by kernel_rfl) ?_
    refine wpAnyIn_ready (rs := [0, 1]) (by kernel_rfl) (by simp) ?_
    refine AllReadyIn.cons rfl (fun K hK => ?_) (AllReadyIn.cons rfl (fun K hK => ?_) AllReadyIn.nil)
    · go_simp
      refine hK _ _ ?_
      clear hK K
      refine wpAnyIn_ready (rs := [1]) (by kernel_rfl) (by simp) ?_
      refine AllReadyIn.cons rfl (fun K hK => ?_) AllReadyIn.nil
      go_simp
      refine hK _ _ ?_
      clear hK K
      refine wpAnyIn_ready (rs := [2]) (by kernel_rfl) (by simp) ?_
      refine AllReadyIn.cons rfl (fun K hK => ?_) AllReadyIn.nil
      go_simp
      gi_wp2_with (refine ⟨trivial, ?_⟩; gi_at_call 66; refine (CallsIn.inRound lp (callsIn_wide.2 HCL.out)).mono ?_; rintro e W2 ⟨ua, un, uc, rfl, HU, hc2, hf2⟩)
      refine wpAnyIn_ready (rs := [3]) (by kernel_rfl) (by simp) ?_
      refine AllReadyIn.cons rfl (fun K hK => ?_) AllReadyIn.nil
      go_simp
      refine hK _ _ ?_
      clear hK K
      obtain ⟨⟨vals, hrow, hel⟩, hu, hv2, hb2⟩ : OwnLL W2 (B + 3) v (pre.map Piece.rows) ∧ Own W2 (B + 3) (.slice ua un uc) xr ∧ Boxed W2 B 58 v ∧ Below W.heap.size W W2 := ⟨HU.out.2.1, HU.out.1, HU.out.2.2⟩
      refine wpAnyIn_ready (rs := [4]) (by kernel_rfl) (by simp) ?_
      refine AllReadyIn.cons rfl (fun K hK => ?_) AllReadyIn.nil
      refine stepIn_append_own rfl _ _ 58 rfl (B + 3) 32 i0 (.slice none 0 0) 1 24 Try.underlying58 hi hz0 hz1 hz2 rfl (by decide) v (pre.map Piece.rows).length vals rfl (hrow.alloc _) ⟨W2.heap.size, 0, none⟩ 1 1 [.slice ua un uc] rfl rfl (cell_one_new _ _ _) (by simp [Value.oneCell']) (by simp [maxLen]; omega) (by simp; omega) (by have := hb2.size; have := hk.1.size; simp; omega) ?_
      intro v' W3 hown' hgrow
      obtain ⟨g', cap', rfl⟩ := ownsRow_succ hown'
      obtain ⟨k1, k2, k3, k4⟩ := cut_end (by have := hk.1.size; omega) (by omega) hv2 hb2 hrow hel hu hown' hgrow
      have hc3 := k1.cell
      have hf3 := k1.frozen
      have HEnd : Aside (KeepsFrom W0.heap.size W (W3.setCell ⟨B, 0, none⟩ (.slice (some ⟨g', 0, none⟩) ((pre.map Piece.rows).length + 1) cap')) ∧ KeepBut B (B + 3) W (W3.setCell ⟨B, 0, none⟩ (.slice (some ⟨g', 0, none⟩) ((pre.map Piece.rows).length + 1) cap')) ∧ (∃ v, Boxed (W3.setCell ⟨B, 0, none⟩ (.slice (some ⟨g', 0, none⟩) ((pre.map Piece.rows).length + 1) cap')) B 58 v ∧ OwnLL (W3.setCell ⟨B, 0, none⟩ (.slice (some ⟨g', 0, none⟩) ((pre.map Piece.rows).length + 1) cap')) (B + 3) v ((pre ++ [x]).map Piece.rows)) ∧ KeepBut B (B + 3) W0 (W3.setCell ⟨B, 0, none⟩ (.slice (some ⟨g', 0, none⟩) ((pre.map Piece.rows).length + 1) cap'))) := by
        refine ⟨by rw [hsz]; exact k4, k3, ⟨_, k2.1, ?_⟩, hk.trans k3⟩
        have e3 : (pre ++ [x]).map Piece.rows = pre.map Piece.rows ++ [xr] := by rw [List.map_append, List.map_singleton, e2]
        rw [e3]
        exact k2.2
      generalize hLn : (pre.map Piece.rows).length + 1 = Ln at *
      clear hLn k1 k2 k3 k4 hown' hgrow hrow hel hu hv2 hb2 HU
      refine hK _ _ ?_
      clear hK K
      refine wpAnyIn_ready (rs := [5]) (by kernel_rfl) (by simp) ?_
      refine AllReadyIn.cons rfl (fun K hK => ?_) AllReadyIn.nil
      go_simp
      refine hK _ _ ?_
      clear hK K
      refine wpAnyIn_done (by kernel_rfl) ?_ _
      exact HEnd.out
    · go_simp
      refine hK _ _ ?_
      clear hK K
      refine wpAnyIn_ready (rs := [0, 2]) (by kernel_rfl) (by simp) ?_
      refine AllReadyIn.cons rfl (fun K hK => ?_) (AllReadyIn.cons rfl (fun K hK => ?_) AllReadyIn.nil)
      · go_simp
        refine hK _ _ ?_
        clear hK K
        refine wpAnyIn_ready (rs := [2]) (by kernel_rfl) (by simp) ?_
        refine AllReadyIn.cons rfl (fun K hK => ?_) AllReadyIn.nil
        go_simp
        gi_wp2_with (refine ⟨trivial, ?_⟩; gi_at_call 66; refine (CallsIn.inRound lp (callsIn_wide.2 HCL.out)).mono ?_; rintro e W2 ⟨ua, un, uc, rfl, HU, hc2, hf2⟩)
        refine wpAnyIn_ready (rs := [3]) (by kernel_rfl) (by simp) ?_
        refine AllReadyIn.cons rfl (fun K hK => ?_) AllReadyIn.nil
        go_simp
        refine hK _ _ ?_
        clear hK K
        obtain ⟨⟨vals, hrow, hel⟩, hu, hv2, hb2⟩ : OwnLL W2 (B + 3) v (pre.map Piece.rows) ∧ Own W2 (B + 3) (.slice ua un uc) xr ∧ Boxed W2 B 58 v ∧ Below W.heap.size W W2 := ⟨HU.out.2.1, HU.out.1, HU.out.2.2⟩
        refine wpAnyIn_ready (rs := [4]) (by kernel_rfl) (by simp) ?_
        refine AllReadyIn.cons rfl (fun K hK => ?_) AllReadyIn.nil
        refine stepIn_append_own rfl _ _ 58 rfl (B + 3) 32 i0 (.slice none 0 0) 1 24 Try.underlying58 hi hz0 hz1 hz2 rfl (by decide) v (pre.map Piece.rows).length vals rfl (hrow.alloc _) ⟨W2.heap.size, 0, none⟩ 1 1 [.slice ua un uc] rfl rfl (cell_one_new _ _ _) (by simp [Value.oneCell']) (by simp [maxLen]; omega) (by simp; omega) (by have := hb2.size; have := hk.1.size; simp; omega) ?_
        intro v' W3 hown' hgrow
        obtain ⟨g', cap', rfl⟩ := ownsRow_succ hown'
        obtain ⟨k1, k2, k3, k4⟩ := cut_end (by have := hk.1.size; omega) (by omega) hv2 hb2 hrow hel hu hown' hgrow
        have hc3 := k1.cell
        have hf3 := k1.frozen
        have HEnd : Aside (KeepsFrom W0.heap.size W (W3.setCell ⟨B, 0, none⟩ (.slice (some ⟨g', 0, none⟩) ((pre.map Piece.rows).length + 1) cap')) ∧ KeepBut B (B + 3) W (W3.setCell ⟨B, 0, none⟩ (.slice (some ⟨g', 0, none⟩) ((pre.map Piece.rows).length + 1) cap')) ∧ (∃ v, Boxed (W3.setCell ⟨B, 0, none⟩ (.slice (some ⟨g', 0, none⟩) ((pre.map Piece.rows).length + 1) cap')) B 58 v ∧ OwnLL (W3.setCell ⟨B, 0, none⟩ (.slice (some ⟨g', 0, none⟩) ((pre.map Piece.rows).length + 1) cap')) (B + 3) v ((pre ++ [x]).map Piece.rows)) ∧ KeepBut B (B + 3) W0 (W3.setCell ⟨B, 0, none⟩ (.slice (some ⟨g', 0, none⟩) ((pre.map Piece.rows).length + 1) cap'))) := by
          refine ⟨by rw [hsz]; exact k4, k3, ⟨_, k2.1, ?_⟩, hk.trans k3⟩
          have e3 : (pre ++ [x]).map Piece.rows = pre.map Piece.rows ++ [xr] := by rw [List.map_append, List.map_singleton, e2]
          rw [e3]
          exact k2.2
        generalize hLn : (pre.map Piece.rows).length + 1 = Ln at *
        clear hLn k1 k2 k3 k4 hown' hgrow hrow hel hu hv2 hb2 HU
        refine hK _ _ ?_
        clear hK K
        refine wpAnyIn_ready (rs := [5]) (by kernel_rfl) (by simp) ?_
        refine AllReadyIn.cons rfl (fun K hK => ?_) AllReadyIn.nil
        go_simp
        refine hK _ _ ?_
        clear hK K
        refine wpAnyIn_done (by kernel_rfl) ?_ _
        exact HEnd.out
      · go_simp
        gi_wp2_with (refine ⟨trivial, ?_⟩; gi_at_call 66; refine (CallsIn.inRound lp (callsIn_wide.2 HCL.out)).mono ?_; rintro e W2 ⟨ua, un, uc, rfl, HU, hc2, hf2⟩)
        refine wpAnyIn_ready (rs := [0, 3]) (by kernel_rfl) (by simp) ?_
        refine AllReadyIn.cons rfl (fun K hK => ?_) (AllReadyIn.cons rfl (fun K hK => ?_) AllReadyIn.nil)
        · go_simp
          refine hK _ _ ?_
          clear hK K
          refine wpAnyIn_ready (rs := [3]) (by kernel_rfl) (by simp) ?_
          refine AllReadyIn.cons rfl (fun K hK => ?_) AllReadyIn.nil
          go_simp
          refine hK _ _ ?_
          clear hK K
          obtain ⟨⟨vals, hrow, hel⟩, hu, hv2, hb2⟩ : OwnLL W2 (B + 3) v (pre.map Piece.rows) ∧ Own W2 (B + 3) (.slice ua un uc) xr ∧ Boxed W2 B 58 v ∧ Below W.heap.size W W2 := ⟨HU.out.2.1, HU.out.1, HU.out.2.2⟩
          refine wpAnyIn_ready (rs := [4]) (by kernel_rfl) (by simp) ?_
          refine AllReadyIn.cons rfl (fun K hK => ?_) AllReadyIn.nil
          refine stepIn_append_own rfl _ _ 58 rfl (B + 3) 32 i0 (.slice none 0 0) 1 24 Try.underlying58 hi hz0 hz1 hz2 rfl (by decide) v (pre.map Piece.rows).length vals rfl (hrow.alloc _) ⟨W2.heap.size, 0, none⟩ 1 1 [.slice ua un uc] rfl rfl (cell_one_new _ _ _) (by simp [Value.oneCell']) (by simp [maxLen]; omega) (by simp; omega) (by have := hb2.size; have := hk.1.size; simp; omega) ?_
          intro v' W3 hown' hgrow
          obtain ⟨g', cap', rfl⟩ := ownsRow_succ hown'
          obtain ⟨k1, k2, k3, k4⟩ := cut_end (by have := hk.1.size; omega) (by omega) hv2 hb2 hrow hel hu hown' hgrow
          have hc3 := k1.cell
          have hf3 := k1.frozen
          have HEnd : Aside (KeepsFrom W0.heap.size W (W3.setCell ⟨B, 0, none⟩ (.slice (some ⟨g', 0, none⟩) ((pre.map Piece.rows).length + 1) cap')) ∧ KeepBut B (B + 3) W (W3.setCell ⟨B, 0, none⟩ (.slice (some ⟨g', 0, none⟩) ((pre.map Piece.rows).length + 1) cap')) ∧ (∃ v, Boxed (W3.setCell ⟨B, 0, none⟩ (.slice (some ⟨g', 0, none⟩) ((pre.map Piece.rows).length + 1) cap')) B 58 v ∧ OwnLL (W3.setCell ⟨B, 0, none⟩ (.slice (some ⟨g', 0, none⟩) ((pre.map Piece.rows).length + 1) cap')) (B + 3) v ((pre ++ [x]).map Piece.rows)) ∧ KeepBut B (B + 3) W0 (W3.setCell ⟨B, 0, none⟩ (.slice (some ⟨g', 0, none⟩) ((pre.map Piece.rows).length + 1) cap'))) := by
            refine ⟨by rw [hsz]; exact k4, k3, ⟨_, k2.1, ?_⟩, hk.trans k3⟩
            have e3 : (pre ++ [x]).map Piece.rows = pre.map Piece.rows ++ [xr] := by rw [List.map_append, List.map_singleton, e2]
            rw [e3]
            exact k2.2
          generalize hLn : (pre.map Piece.rows).length + 1 = Ln at *
          clear hLn k1 k2 k3 k4 hown' hgrow hrow hel hu hv2 hb2 HU
          refine hK _ _ ?_
          clear hK K
          refine wpAnyIn_ready (rs := [5]) (by kernel_rfl) (by simp) ?_
          refine AllReadyIn.cons rfl (fun K hK => ?_) AllReadyIn.nil
          go_simp
          refine hK _ _ ?_
          clear hK K
          refine wpAnyIn_done (by kernel_rfl) ?_ _
          exact HEnd.out
        · go_simp
          refine hK _ _ ?_
          clear hK K
          have hc2' : (W2.alloc (.cells #[.slice ua un uc] 32)).cell? ⟨B, 0, none⟩ = some v := (HU.out.2.2.1.alloc _).cell
          refine wpAnyIn_ready (rs := [0]) (by kernel_rfl) (by simp) ?_
          refine AllReadyIn.cons rfl (fun K hK => ?_) AllReadyIn.nil
          go_simp
          refine hK _ _ ?_
          clear hK K
          obtain ⟨⟨vals, hrow, hel⟩, hu, hv2, hb2⟩ : OwnLL W2 (B + 3) v (pre.map Piece.rows) ∧ Own W2 (B + 3) (.slice ua un uc) xr ∧ Boxed W2 B 58 v ∧ Below W.heap.size W W2 := ⟨HU.out.2.1, HU.out.1, HU.out.2.2⟩
          refine wpAnyIn_ready (rs := [4]) (by kernel_rfl) (by simp) ?_
          refine AllReadyIn.cons rfl (fun K hK => ?_) AllReadyIn.nil
          refine stepIn_append_own rfl _ _ 58 rfl (B + 3) 32 i0 (.slice none 0 0) 1 24 Try.underlying58 hi hz0 hz1 hz2 rfl (by decide) v (pre.map Piece.rows).length vals rfl (hrow.alloc _) ⟨W2.heap.size, 0, none⟩ 1 1 [.slice ua un uc] rfl rfl (cell_one_new _ _ _) (by simp [Value.oneCell']) (by simp [maxLen]; omega) (by simp; omega) (by have := hb2.size; have := hk.1.size; simp; omega) ?_
          intro v' W3 hown' hgrow
          obtain ⟨g', cap', rfl⟩ := ownsRow_succ hown'
          obtain ⟨k1, k2, k3, k4⟩ := cut_end (by have := hk.1.size; omega) (by omega) hv2 hb2 hrow hel hu hown' hgrow
          have hc3 := k1.cell
          have hf3 := k1.frozen
          have HEnd : Aside (KeepsFrom W0.heap.size W (W3.setCell ⟨B, 0, none⟩ (.slice (some ⟨g', 0, none⟩) ((pre.map Piece.rows).length + 1) cap')) ∧ KeepBut B (B + 3) W (W3.setCell ⟨B, 0, none⟩ (.slice (some ⟨g', 0, none⟩) ((pre.map Piece.rows).length + 1) cap')) ∧ (∃ v, Boxed (W3.setCell ⟨B, 0, none⟩ (.slice (some ⟨g', 0, none⟩) ((pre.map Piece.rows).length + 1) cap')) B 58 v ∧ OwnLL (W3.setCell ⟨B, 0, none⟩ (.slice (some ⟨g', 0, none⟩) ((pre.map Piece.rows).length + 1) cap')) (B + 3) v ((pre ++ [x]).map Piece.rows)) ∧ KeepBut B (B + 3) W0 (W3.setCell ⟨B, 0, none⟩ (.slice (some ⟨g', 0, none⟩) ((pre.map Piece.rows).length + 1) cap'))) := by
            refine ⟨by rw [hsz]; exact k4, k3, ⟨_, k2.1, ?_⟩, hk.trans k3⟩
            have e3 : (pre ++ [x]).map Piece.rows = pre.map Piece.rows ++ [xr] := by rw [List.map_append, List.map_singleton, e2]
            rw [e3]
            exact k2.2
          generalize hLn : (pre.map Piece.rows).length + 1 = Ln at *
          clear hLn k1 k2 k3 k4 hown' hgrow hrow hel hu hv2 hb2 HU
          refine hK _ _ ?_
          clear hK K
          refine wpAnyIn_ready (rs := [5]) (by kernel_rfl) (by simp) ?_
          refine AllReadyIn.cons rfl (fun K hK => ?_) AllReadyIn.nil
          go_simp
          refine hK _ _ ?_
          clear hK K
          refine wpAnyIn_done (by kernel_rfl) ?_ _
          exact HEnd.out
  case done =>
    rintro D ys W hD hys ⟨⟨v, hv, hLL⟩, hk⟩ hKd
    have hcv := hv.cell
    gi_wp2
    refine ⟨by simp, .inl ⟨_, _, rfl, run_takeDeferred hKd, ?_⟩⟩
    refine ⟨.tuple #[v, .int .i64 0], by simp [results, Try.results38, go_sem], v, rfl, ?_, ?_⟩
    · rw [← hys]
      exact (hLL.kept (grownBy_putObj' W D _) fun r e cur => ⟨fun he => (by cases e; rw [he] at hKd; cases hKd), fun he => (by cases e; rw [he] at hKd; cases hKd)⟩).mono (by omega)
    · exact (hbw.trans (hk.1.mono (by omega))).trans (belowK_b (w := w) (Nat.le_refl _) W D _ _ (by omega) hKd rfl rfl)
  case stop =>
    rintro D c pre W _ _ h _
    exact h.elim
end Go.Proofs.Ytcgpgflnihjpiac
