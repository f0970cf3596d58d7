/- tree.leaves and tree.ground. -/
import Derived.Test.YtcgpgflnihjpiacEqual
namespace Go.Proofs.Ytcgpgflnihjpiac
open Go.RowKit Go.Shelf
attribute [local go_sem] Oper.semAt_some

/-- A chunk of a level that lay in w. -/
def Leaf (w : World) : Type := { x : (Option Addr × Nat × Nat) × List (Int × Int) // Sl w x.1.1 x.1.2.1 x.1.2.2 x.2 ∧ x.1.2.1 ≤ 1048576 }
def Leaf.val {w : World} (x : Leaf w) : Value := .slice x.1.1.1 x.1.1.2.1 x.1.1.2.2
def Leaf.rows {w : World} (x : Leaf w) : List (Int × Int) := x.1.2
def idxV : Value → Nat | .int _ k => k.toNat | _ => 0
def ground (T : List (List (List (Int × Int)))) : List (List (Int × Int)) := T.getD 0 []

theorem leaves_any (a : Option Addr) (n cap : Nat) (w : World) :
    Calls Try.prog 70 #[.slice a n cap] w fun e w' => e = .returned (.func (.func 88) #[] #[.pointer (some ⟨w.heap.size, 0, none⟩)]) ∧ w' = w.alloc (.cells #[.slice a n cap] 22) := by
  go_enter Try.func70, Try.ntmps70
  go_wp2
  go_ret
  exact ⟨rfl, rfl⟩

set_option maxRecDepth 100000 in
set_option maxHeartbeats 4000000 in
theorem leaves1_in (n0 lp p n cap : Nat) (a : Option Addr) (T : List (List (List (Int × Int)))) (w : World) (hn : 1 ≤ n0) (hT : TvS w a n cap T) (hbig : ∀ c ∈ ground T, c.length ≤ 1048576)
    (J Jx : List (Leaf w) → World → Prop) (W : World) (hW : Below w.heap.size w W)
    (hY : ∀ pre x W1, J pre W1 → pre.length < 9223372036854775807 → YieldAt Fence.wide (n0 - 1) Try.prog lp #[Leaf.val x] W1 fun e W' =>
      (e = .returned (.bool true) ∧ J (pre ++ [x]) W' ∧ Below w.heap.size W1 W') ∨ (e = .returned (.bool false) ∧ Jx (pre ++ [x]) W'))
    (hp : W.cell? ⟨p, 0, none⟩ = some (.slice a n cap)) (h0 : J [] W) :
    CallsIn Fence.wide n0 Try.prog 88 #[.func (.yield lp) #[] #[], .pointer (some ⟨p, 0, none⟩)] W fun e W' => (∃ v, e = .returned v) ∧
      ((∃ xs : List (Leaf w), xs.map Leaf.rows = ground T ∧ J xs W') ∨ (∃ pre : List (Leaf w), (∃ more, pre.map Leaf.rows ++ more = ground T) ∧ Jx pre W')) := by
  refine callsIn_of_wp Try.func88 rfl trivial ?_ rfl
  simp only [Try.ntmps88, List.size_toArray, List.length_cons, List.length_nil, Nat.reduceAdd, Nat.reduceSub, Array.replicate_succ, Array.replicate_zero, List.push_toArray, List.append_toArray, List.nil_append, List.cons_append]
  have HY : Aside (∀ pre x W1, J pre W1 → pre.length < 9223372036854775807 → YieldAt Fence.wide (n0 - 1) Try.prog lp #[Leaf.val x] W1 fun e W' =>
      (e = .returned (.bool true) ∧ J (pre ++ [x]) W' ∧ Below w.heap.size W1 W') ∨ (e = .returned (.bool false) ∧ Jx (pre ++ [x]) W')) := hY
  have HJ0 : Aside (J [] W) := h0
  have HBig : Aside (∀ c ∈ ground T, c.length ≤ 1048576) := hbig
  have HT : Aside (TvS w a n cap T) := hT
  have hmax := hT.len
  clear hY h0 hT hbig
  by_cases hn0 : n = 0
  · subst hn0
    have eT : Aside (T = []) := List.eq_nil_of_length_eq_zero HT.out.1.1
    gi_wp2
    refine bodyPost_ret (results_none rfl _ _ _) rfl ?_
    exact ⟨⟨_, rfl⟩, .inl ⟨[], by rw [eT.out]; rfl, HJ0.out⟩⟩
  · have hnb : ((n : Int) == 0) = false := by simp; omega
    obtain ⟨b, off, rfl, hB, hc⟩ := HT.out.1.at (by omega)
    obtain ⟨a1, n1, c1, q1, s1⟩ := hc 0 (by omega)
    have S1 : Aside (LvS w a1 n1 c1 (ground T)) := s1
    have q1' : W.cell? ⟨b, off, none⟩ = some (.slice a1 n1 c1) := (hW.cell (p := ⟨b, off, none⟩) hB).trans q1
    have hn1 := s1.len
    clear hc q1 s1
    gi_wp2
    gi_loopw [12] (fun v wr => ∃ (k : Nat) (pre : List (Leaf w)), v = .int .i64 k ∧ k ≤ n1 ∧ Aside (pre.length = k) ∧ Aside (pre.map Leaf.rows = (ground T).take k) ∧ Aside (J pre wr) ∧ Below w.heap.size w wr)
      (fun v _ => n1 - idxV v)
    case atStart => exact ⟨0, [], rfl, Nat.zero_le _, rfl, by simp [Aside], HJ0, hW⟩
    case round =>
      obtain ⟨k, pre, rfl, hk, HP, HE, HJ', hbel⟩ := hrel
      by_cases hlt : k < n1
      · obtain ⟨b1, o1, rfl⟩ : ∃ b1 o1, a1 = some ⟨b1, o1, none⟩ := by
          rcases S1.out.1.2 with e | ⟨b', o', e, _⟩
          · omega
          · exact ⟨b', o', e⟩
        obtain ⟨hB1, hc1⟩ := S1.out.1.at (by omega)
        obtain ⟨xa, xn, xc, q2, s2⟩ := hc1 k hlt
        have hmem : (ground T).getD k [] ∈ ground T := by rw [List.getD, List.getElem?_eq_getElem (by rw [S1.out.1.1]; exact hlt)]; simp
        obtain ⟨x, hx1, hx2⟩ : ∃ x : Leaf w, Leaf.val x = .slice xa xn xc ∧ x.rows = (ground T).getD k [] := ⟨⟨((xa, xn, xc), _), s2, by have := HBig.out _ hmem; rw [s2.1.1] at this; exact this⟩, rfl, rfl⟩
        have qc : wr.cell? ⟨b1, o1 + k, none⟩ = some (.slice xa xn xc) := (hbel.cell (p := ⟨b1, o1 + k, none⟩) hB1).trans q2
        have hki : (k : Int) < (n1 : Int) := by omega
        have E : Aside ((pre ++ [x]).map Leaf.rows = (ground T).take (k + 1)) := by
          unfold Aside
          rw [List.map_append, HE.out, List.map_singleton, hx2, List.take_succ_eq_append_getElem (by rw [S1.out.1.1]; exact hlt)]
          simp [List.getD, show k < (ground T).length by rw [S1.out.1.1]; exact hlt]
        obtain ⟨fn, tmps, assign, body, hy, hRd⟩ := HY.out pre x wr HJ'.out (by rw [HP.out]; omega)
        rw [hx1] at hy
        have HRd : Aside (RoundIn Fence.wide (n0 - 1) Try.prog lp fn tmps assign body wr fun e W' => (e = .returned (.bool true) ∧ J (pre ++ [x]) W' ∧ Below w.heap.size wr W') ∨ (e = .returned (.bool false) ∧ Jx (pre ++ [x]) W')) := hRd
        have HX : Aside ((pre ++ [x]).length = k + 1) := by unfold Aside; rw [List.length_append, HP.out]; rfl
        clear hRd hx1 hx2 hc1 q2 s2
        gi_wp2_with fail
        refine HRd.out.mono ?_
        rintro e W3 (⟨rfl, hJ3, hk3⟩ | ⟨rfl, hJx3⟩)
        · have HJ3 : Aside (J (pre ++ [x]) W3) := hJ3
          have hb3 := hbel.trans hk3
          clear hJ3 hk3 hy
          gi_wp2
          all_goals go_roundw
          all_goals first
            | exact ⟨k + 1, pre ++ [x], by go_num, by omega, HX, E, HJ3, hb3⟩
            | (simp [idxV]; omega)
        · gi_wp2
          refine bodyPost_ret (results_none rfl _ _ _) rfl ?_
          exact ⟨⟨_, rfl⟩, .inr ⟨pre ++ [x], ⟨(ground T).drop (k + 1), by rw [E.out]; exact List.take_append_drop _ _⟩, hJx3⟩⟩
      · obtain rfl : k = n1 := by omega
        gi_wp2
        go_end0
        exact ⟨⟨_, rfl⟩, .inl ⟨pre, by rw [HE.out, List.take_of_length_le (by rw [S1.out.1.1]; omega)], HJ'.out⟩⟩

theorem leaves_stops (n0 p n cap : Nat) (a : Option Addr) (T : List (List (List (Int × Int)))) (w w0 : World) (hn : 1 ≤ n0) (hT : TvS w a n cap T) (hbig : ∀ c ∈ ground T, c.length ≤ 1048576) (hw0 : Below w.heap.size w w0)
    (hp : w0.cell? ⟨p, 0, none⟩ = some (.slice a n cap)) (hpm : p < w0.heap.size) :
    SeqStopsK Fence.wide n0 Try.prog 88 #[.pointer (some ⟨p, 0, none⟩)] (fun x : Leaf w => #[Leaf.val x]) (Below w.heap.size) (fun xs => xs.map Leaf.rows = ground T) (fun pre => ∃ more, pre.map Leaf.rows ++ more = ground T) 9223372036854775807 w0 := fun lp J Jx W hW _ _ hY h0 =>
  leaves1_in n0 lp p n cap a T w hn hT hbig J Jx W (hw0.trans (hW.mono hw0.size)) hY ((hW.cell (p := ⟨p, 0, none⟩) (by show p < _; omega)).trans hp) h0

/-- Rows appended to rows of the call's own, inside a fence. -/
theorem appendIn_rd {F : Fence} {nF : Nat} {w : World} {ops : Array Oper} {rest : List Oper} {o : Oper} {a : Act} {Q : Exit → Act → World → Prop} (hgd : o.guard = none) (s x : Operand)
    (ho : o.op = .call { callee := .builtin .append, args := #[s, x], argTypes := #[32, 32] })
    (base : Nat) (v : Value) (l : List (Int × Int)) (hs : a.eval s = v) (hown : Own w base v l)
    (ao : Option Addr) (m c : Nat) (l2 : List (Int × Int)) (hx : a.eval x = .slice ao m c) (hr : Rd w ao m l2) (hnil : ao = none → m = 0 ∧ c = 0)
    (hbig : l.length + m ≤ 1000000) (hbase : base ≤ w.heap.size)
    (h : ∀ v' w', Own w' base v' (l ++ l2) → w.grownBy w' v.ownBlock → wpListIn F nF Try.prog ops Q rest (a.put o.dst v') w') : wpListIn F nF Try.prog ops Q (o :: rest) a w := by
  obtain ⟨i0, hi, hz0, hz1, hz2⟩ := info_parts infoRow
  cases ao with
  | none =>
    obtain ⟨rfl, rfl⟩ := hnil rfl
    have e2 : l2 = [] := List.eq_nil_of_length_eq_zero hr.1
    subst e2
    have hrun := run_append_owned_none (P := Try.prog) (w := w) base 32 o.type 56 i0 2 Try.underlying32 hi v l.length (enc l) hown
    refine wpListIn_plain hgd fun K hK => ?_
    unfold Oper.wpIn
    refine ⟨?_, ?_⟩
    · simp [Oper.about, ho, resolve, Target.leads, Sem.run_pure]
    · rw [Oper.semAt_plain F _ _ (by rw [ho]; intro c hc'; cases hc')]
      unfold execOp
      simp only [ho, resolve, invoke, builtin, Sem.run_bind, Sem.run_pure, Result.andThen_ok, List.map_toArray, List.map_cons, List.map_nil, hs, hx, hrun]
      exact hK _ _ (h v w (by simpa using hown) ⟨(Below.refl 0 w).os, (Below.refl 0 w).tape, (Below.refl 0 w).output, (Below.refl 0 w).size, fun _ _ _ => rfl⟩)
  | some ad =>
    have hm2 : (enc l2).length = m * 2 := by rw [enc_length, hr.1]
    have hnews : ∀ j u, (enc l2)[j]? = some u → w.cell? (ad.add j) = some u := by
      rcases hr.cases with ⟨rfl, rfl⟩ | ⟨b, off, hab, hn, hl, hB, hc⟩
      · intro j u hj; simp [Ytcgpgflnihjpiac.enc] at hj
      · obtain rfl : ad = ⟨b, off, none⟩ := by simpa using hab
        exact Rd.enc hl hc
    refine wpListIn_append_own _ hgd s x 32 ho base 56 i0 (.agg #[.int .i64 0, .int .i64 0]) 2 16 Try.underlying32 hi hz0 hz1 hz2 rfl (by decide) v l.length (enc l) hs hown ad m c (enc l2) hx hm2 hnews (enc_one l2)
      (by simp only [maxLen]; omega) (by omega) hbase ?_
    intro v' w' h1 h2 _
    refine h v' w' ?_ h2
    unfold Ytcgpgflnihjpiac.Own
    rw [enc_append, List.length_append, hr.1]
    exact h1

/-- What ground's body keeps. -/
def GI (w : World) (B : Nat) (W : World) (l : List (Int × Int)) : Prop :=
  (∃ v, Boxed W (B + 1 + 1) 32 v ∧ Ytcgpgflnihjpiac.Own W (B + 4) v l) ∧ l.length ≤ 40 ∧ Boxed W B 32 (.slice none 0 0) ∧ Boxed W (B + 1) 4 (.bool false) ∧ Below B w W ∧ B + 4 ≤ W.heap.size
def GX (w : World) (B : Nat) (W : World) : Prop := Boxed W B 32 (.slice none 0 0) ∧ Boxed W (B + 1) 4 (.bool false) ∧ Below B w W

theorem GX.from {w : World} {B : Nat} {X Y : World} {row : Option Nat} (h : GX w B X) (hg : X.grownBy Y row) (hr : ∀ r, row = some r → B + 4 ≤ r ∧ ∃ o : Obj, X.heap[r]? = some o ∧ o.isCells = false) (hB : B ≤ X.heap.size) : GX w B Y := by
  obtain ⟨h1, h2, h3⟩ := h
  refine ⟨h1.kept hg (fun e => ?_), h2.kept hg (fun e => ?_), h3.trans ((Below.refl _ _).grown hg hB (fun k e => by have := (hr k e).1; omega))⟩
  · have := (hr _ e.symm).1; omega
  · have := (hr _ e.symm).1; omega
theorem GI.from {w : World} {B : Nat} {X Y : World} {l : List (Int × Int)} {row : Option Nat} (h : GI w B X l) (hg : X.grownBy Y row) (hr : ∀ r, row = some r → B + 4 ≤ r ∧ ∃ o : Obj, X.heap[r]? = some o ∧ o.isCells = false) : GI w B Y l := by
  obtain ⟨⟨v, hv, ho⟩, hl, h1, h2, h3, h4⟩ := h
  obtain ⟨g1, g2, g3⟩ := GX.from ⟨h1, h2, h3⟩ hg hr (by omega)
  refine ⟨⟨v, hv.kept hg (fun e => ?_), ownsRow_other ho hg fun r e cur he => ?_⟩, hl, g1, g2, g3, Nat.le_trans h4 hg.size⟩
  · have := (hr _ e.symm).1; omega
  · obtain ⟨_, o, ho, hc⟩ := hr r e
    rw [he] at ho; cases ho; cases hc

theorem keeps_grown {B : Nat} {X Y : World} {row : Option Nat} (hg : X.grownBy Y row) (hr : ∀ r, row = some r → ∃ o : Obj, X.heap[r]? = some o ∧ o.isCells = true) : KeepsFrom B X Y :=
  ⟨hg.size, fun k o _ hk ho => (hg.block k (Array.getElem?_eq_some_iff.1 hk).1 (fun e => by obtain ⟨o', h1, h2⟩ := hr k e.symm; rw [hk] at h1; cases h1; rw [ho] at h2; cases h2)).trans hk⟩
theorem own_cells {W : World} {base : Nat} {v : Value} {l : List (Int × Int)} (h : Ytcgpgflnihjpiac.Own W base v l) : ∀ r, v.ownBlock = some r → ∃ o : Obj, W.heap[r]? = some o ∧ o.isCells = true := by
  intro r e
  rcases h.2 with ⟨rfl, _⟩ | ⟨g, cap, cur', rfl, _, hgb, _⟩
  · simp [Value.ownBlock] at e
  · obtain rfl : g = r := by simpa [Value.ownBlock] using e
    exact ⟨_, hgb, rfl⟩
theorem GI.put {w W W3 : World} {B : Nat} {v v' : Value} {l xr : List (Int × Int)} (hv : Boxed W (B + 1 + 1) 32 v) (ho : Ytcgpgflnihjpiac.Own W (B + 4) v l) (h1 : Boxed W B 32 (.slice none 0 0)) (h2 : Boxed W (B + 1) 4 (.bool false)) (hbel : Below B w W) (hWB : B + 4 ≤ W.heap.size)
    (ho3 : Ytcgpgflnihjpiac.Own W3 (B + 4) v' (l ++ xr)) (hg : W.grownBy W3 v.ownBlock) (h40 : (l ++ xr).length ≤ 40) :
    Boxed W3 (B + 1 + 1) 32 v ∧ KeepsFrom (B + 4) W (W3.setCell ⟨B + 1 + 1, 0, none⟩ v') ∧ Below B W (W3.setCell ⟨B + 1 + 1, 0, none⟩ v') ∧ GI w B (W3.setCell ⟨B + 1 + 1, 0, none⟩ v') (l ++ xr) := by
  have hlt : ∀ r, v.ownBlock = some r → B + 4 ≤ r := fun r e => (World.ownsRow.lt ho r e).1
  have k1 : Boxed W3 (B + 1 + 1) 32 v := hv.kept hg (fun e => by have := hlt _ e.symm; omega)
  have k2 : Boxed W3 B 32 (.slice none 0 0) := h1.kept hg (fun e => by have := hlt _ e.symm; omega)
  have k3 : Boxed W3 (B + 1) 4 (.bool false) := h2.kept hg (fun e => by have := hlt _ e.symm; omega)
  have g2 := grownBy_setCell' W3 (B + 1 + 1) v'
  have hs3 := hg.size
  have b3 : Below B W W3 := (Below.refl _ _).grown hg (by omega) (fun k e => by have := hlt k e; omega)
  have b4 : Below B W3 (W3.setCell ⟨B + 1 + 1, 0, none⟩ v') := (Below.refl _ _).grown g2 (by omega) (fun k e => by cases e; omega)
  refine ⟨k1, (keeps_grown hg (own_cells ho)).trans (keeps_grown g2 (fun r e => by cases e; exact ⟨_, k1, rfl⟩)), b3.trans b4, ⟨v', k1.set v', ownsRow_other ho3 g2 fun r e cur he => ?_⟩, h40, k2.other (by omega) _, k3.other (by omega) _, (hbel.trans b3).trans b4, by have := g2.size; omega⟩
  cases e
  rw [show W3.heap[B + 1 + 1]? = _ from k1] at he
  simp at he
theorem GX.put {w W : World} {B : Nat} {u1 u2 : Value} (h1 : Boxed W B 32 u1) (h2 : Boxed W (B + 1) 4 u2) (hbel : Below B w W) (hWB : B + 4 ≤ W.heap.size) :
    KeepsFrom (B + 4) W ((W.setCell ⟨B, 0, none⟩ (.slice none 0 0)).setCell ⟨B + 1, 0, none⟩ (.bool false)) ∧ GX w B ((W.setCell ⟨B, 0, none⟩ (.slice none 0 0)).setCell ⟨B + 1, 0, none⟩ (.bool false)) ∧ B ≤ ((W.setCell ⟨B, 0, none⟩ (.slice none 0 0)).setCell ⟨B + 1, 0, none⟩ (.bool false)).heap.size := by
  have g1 := grownBy_setCell' W B (.slice none 0 0)
  have k1 := h1.set (.slice none 0 0)
  have k2 := h2.other (B' := B) (by omega) (.slice none 0 0)
  have g2 := grownBy_setCell' (W.setCell ⟨B, 0, none⟩ (.slice none 0 0)) (B + 1) (.bool false)
  have s1 := g1.size
  have s2 := g2.size
  have b1 : Below B W (W.setCell ⟨B, 0, none⟩ (.slice none 0 0)) := (Below.refl _ _).grown g1 (by omega) (fun k e => by cases e; omega)
  have b2 : Below B (W.setCell ⟨B, 0, none⟩ (.slice none 0 0)) ((W.setCell ⟨B, 0, none⟩ (.slice none 0 0)).setCell ⟨B + 1, 0, none⟩ (.bool false)) := (Below.refl _ _).grown g2 (by omega) (fun k e => by cases e; omega)
  exact ⟨(keeps_grown g1 (fun r e => by cases e; exact ⟨_, h1, rfl⟩)).trans (keeps_grown g2 (fun r e => by cases e; exact ⟨_, k2, rfl⟩)), ⟨k1.other (by omega) _, k2.set _, (hbel.trans b1).trans b2⟩, by omega⟩

set_option maxRecDepth 100000 in
set_option maxHeartbeats 8000000 in
theorem ground_any (a : Option Addr) (n cap : Nat) (T : List (List (List (Int × Int)))) (w : World) (hT : TvS w a n cap T) (hbig : ∀ c ∈ ground T, c.length ≤ 1048576) :
    Calls Try.prog 42 #[.slice a n cap] w fun e w' => ∃ v, e = .returned (.tuple #[v, .bool (decide ((ground T).flatten.length ≤ 40))]) ∧ Ytcgpgflnihjpiac.Own w' w.heap.size v (if (ground T).flatten.length ≤ 40 then (ground T).flatten else []) ∧ Below w.heap.size w w' := by
  obtain ⟨few, hfew⟩ : ∃ few, few = decide ((ground T).flatten.length ≤ 40) := ⟨_, rfl⟩
  obtain ⟨G, hG⟩ : ∃ G, G = if (ground T).flatten.length ≤ 40 then (ground T).flatten else [] := ⟨_, rfl⟩
  rw [← hfew, ← hG]
  have HFew : Aside (few = decide ((ground T).flatten.length ≤ 40)) := hfew
  have HG : Aside (G = if (ground T).flatten.length ≤ 40 then (ground T).flatten else []) := hG
  clear hfew hG
  refine (callsIn_wide (n := 9)).1 ?_
  refine callsIn_of_wp_marks Try.func42 rfl trivial ?_ rfl
  simp only [Try.ntmps42, List.size_toArray, List.length_cons, List.length_nil, Nat.reduceAdd, Nat.reduceSub, Array.replicate_succ, Array.replicate_zero, List.push_toArray, List.append_toArray, List.nil_append, List.cons_append]
  gi_wp2_with (first | (refine ⟨trivial, ?_⟩; gi_at_call 70; refine (callsIn_wide.2 (leaves_any a n cap _)).mono ?_; rintro e w2 ⟨rfl, rfl⟩))
  obtain ⟨B, hBe⟩ : ∃ B, B = w.heap.size := ⟨_, rfl⟩
  obtain ⟨W0, hW0⟩ : ∃ W0, W0 = (((w.alloc (.cells #[.slice none 0 0] 32)).alloc (.cells #[.bool false] 4)).alloc (.cells #[.slice none 0 0] 32)).alloc (.cells #[.slice a n cap] 22) := ⟨_, rfl⟩
  have hsz : W0.heap.size = B + 4 := by rw [hW0, hBe]; simp
  have hw0 : Below B w W0 := by rw [hW0, hBe]; exact ((((Below.refl _ _).alloc (Nat.le_refl _) _).alloc (by simp) _).alloc (by simp; omega) _).alloc (by simp; omega) _
  have hbx1 : Boxed W0 B 32 (.slice none 0 0) := by rw [hW0, hBe]; exact (((Boxed.new w _ _).alloc _).alloc _).alloc _
  have hbx2 : Boxed W0 (B + 1) 4 (.bool false) := by rw [hW0, hBe]; have := (((Boxed.new (w.alloc (.cells #[.slice none 0 0] 32)) 4 (.bool false)).alloc (.cells #[.slice none 0 0] 32)).alloc (.cells #[.slice a n cap] 22)); simpa using this
  have hbx3 : Boxed W0 (B + 1 + 1) 32 (.slice none 0 0) := by rw [hW0, hBe]; have := ((Boxed.new ((w.alloc (.cells #[.slice none 0 0] 32)).alloc (.cells #[.bool false] 4)) 32 (.slice none 0 0)).alloc (.cells #[.slice a n cap] 22)); simpa using this
  have hcp : W0.cell? ⟨B + 1 + 1 + 1, 0, none⟩ = some (.slice a n cap) := by rw [hW0, hBe]; simp [go_sem]
  rw [← hW0, ← hBe]
  have HT : Aside (TvS w a n cap T) := hT
  have HBig : Aside (∀ c ∈ ground T, c.length ≤ 1048576) := hbig
  have HBe : Aside (B = w.heap.size) := hBe
  clear hW0 hT hbig hBe
  refine wpIn_rangeFunc_ownG (α := Leaf w) rfl (by omega) (gf := 88) (lb := #[.pointer (some ⟨B + 1 + 1 + 1, 0, none⟩)]) rfl trivial (enters_of Try.func88 (by kernel_rfl) rfl)
    (leaves_stops 8 (B + 1 + 1 + 1) n cap a T w W0 (by omega) HT.out HBig.out (by rw [← HBe.out]; exact hw0) hcp (by omega)) (fun h k => Below.trans h k) (belowK_b (by rw [← HBe.out]; omega)) (Below.refl _ _) (fun _ => rfl)
    (fun pre W => GI w B W (pre.map Leaf.rows).flatten)
    (fun c pre W => c = .ret ∧ 40 < (pre.map Leaf.rows).flatten.length ∧ GX w B W ∧ B ≤ W.heap.size) ?hI ?hIx ⟨⟨_, hbx3, World.ownsRow_nil _ _ _ _⟩, by simp, hbx1, hbx2, hw0, by omega⟩
    (fun x => { tmps := #[.slice a n cap, undef, .pointer (some ⟨B, 0, none⟩), .pointer (some ⟨B + 1, 0, none⟩), .pointer (some ⟨B + 1 + 1, 0, none⟩), Leaf.val x, .slice a n cap, .func (.func 88) #[] #[.pointer (some ⟨B + 1 + 1 + 1, 0, none⟩)], Leaf.val x, undef, undef, undef, undef, undef, undef, undef, undef, undef, undef], defers := [] }) ?assign ?body ?done ?stop
  case hI =>
    intro s X Y row h hg hr
    exact h.from hg (by rw [hsz] at hr; exact hr)
  case hIx =>
    rintro c s X Y row ⟨h1, h2, h3, h4⟩ hg hr
    exact ⟨h1, h2, h3.from hg (by rw [hsz] at hr; exact hr) h4, Nat.le_trans h4 hg.size⟩
  case assign =>
    intro lp x W K hK
    gi_wp2
    exact hK
  case body =>
    rintro lp pre x W ⟨⟨v, hv, ho⟩, h40, hx1, hx2, hbel, hWB⟩ hlt
    obtain ⟨⟨⟨⟨xa, xn, xc⟩, xr⟩, hSl, hxb⟩, hx⟩ : ∃ y, y = x := ⟨x, rfl⟩
    have e1 : Leaf.val x = .slice xa xn xc := by rw [← hx]; rfl
    have e2 : x.rows = xr := by rw [← hx]; rfl
    have hSl' : Sl w xa xn xc xr := hSl
    have hxb' : xn ≤ 1048576 := hxb
    rw [e1]
    obtain ⟨va, vc, rfl, _⟩ := ho.rd
    obtain ⟨L, hL⟩ : ∃ L, L = ((pre.map Leaf.rows).flatten).length := ⟨_, rfl⟩
    obtain ⟨l, hl⟩ : ∃ l, l = (pre.map Leaf.rows).flatten := ⟨_, rfl⟩
    have e3 : ((pre ++ [x]).map Leaf.rows).flatten = l ++ xr := by rw [hl]; simp [e2]
    have HSW : Aside (Sl W xa xn xc xr) := hSl'.below (by rw [← HBe.out]; exact hbel)
    rw [← hl] at ho h40 hv hL
    rw [← hL] at ho h40 hv
    have hcv := hv.cell
    have hfv := hv.frozen
    have hc1 := hx1.cell
    have hf1 := hx1.frozen
    have hc2 := hx2.cell
    have hf2 := hx2.frozen
    have HO : Aside (Ytcgpgflnihjpiac.Own W (B + 4) (.slice va L vc) l) := ho
    have HLL : Aside (L = l.length) := hL
    have HV : Aside (Boxed W (B + 1 + 1) 32 (.slice va L vc)) := hv
    have HX1 : Aside (Boxed W B 32 (.slice none 0 0)) := hx1
    have HX2 : Aside (Boxed W (B + 1) 4 (.bool false)) := hx2
    have E3 : Aside (((pre ++ [x]).map Leaf.rows).flatten = l ++ xr) := e3
    clear hx hSl hxb e1 e2 hSl' hl hL ho hv hx1 hx2 e3
    by_cases hmany : L + xn ≤ 40
    · have hmb : decide ((40 : Int) < (L : Int) + (xn : Int)) = false := by simp; omega
      gi_wp2_with (gi_at_builtin; refine appendIn_rd rfl _ _ rfl (B + 4) (.slice va L vc) l rfl HO.out xa xn xc xr rfl HSW.out.1 HSW.out.2.2.2 (by rw [← HLL.out]; omega) hWB ?_)
      intro v5 W3 ho3 hg3
      obtain ⟨a5, c5, e5, _⟩ := ho3.rd
      obtain ⟨L5, hL5⟩ : ∃ L5, L5 = (l ++ xr).length := ⟨_, rfl⟩
      rw [← hL5] at e5
      subst e5
      clear hL5
      obtain ⟨k1, k2, k3, k4⟩ := GI.put (w := w) HV.out HO.out HX1.out HX2.out hbel hWB ho3 hg3 (by rw [List.length_append, ← HLL.out, HSW.out.1.1]; exact hmany)
      have hcv3 := k1.cell
      have hfv3 := k1.frozen
      have HEnd : Aside (KeepsFrom W0.heap.size W (W3.setCell ⟨B + 1 + 1, 0, none⟩ (.slice a5 L5 c5)) ∧ Below w.heap.size W (W3.setCell ⟨B + 1 + 1, 0, none⟩ (.slice a5 L5 c5)) ∧ GI w B (W3.setCell ⟨B + 1 + 1, 0, none⟩ (.slice a5 L5 c5)) ((pre ++ [x]).map Leaf.rows).flatten) := by
        refine ⟨by rw [hsz]; exact k2, by rw [← HBe.out]; exact k3, by rw [E3.out]; exact k4⟩
      clear k1 k2 k3 k4 ho3 hg3
      gi_wp2
      exact HEnd.out
    · have hmb : decide ((40 : Int) < (L : Int) + (xn : Int)) = true := by simp; omega
      gi_wp2
      obtain ⟨k1, k2, k3⟩ := GX.put (w := w) HX1.out HX2.out hbel hWB
      exact ⟨by rw [hsz]; exact k1, rfl, by rw [E3.out, List.length_append, ← HLL.out, HSW.out.1.1]; omega, k2, k3⟩
  case done =>
    rintro D ys W hD hys ⟨⟨v, hv, ho⟩, h40, hx1, hx2, hbel, hWB⟩ hKd
    rw [hys] at ho h40
    obtain ⟨va, vc, e5, _⟩ := ho.rd
    obtain ⟨L5, hL5⟩ : ∃ L5, L5 = (ground T).flatten.length := ⟨_, rfl⟩
    rw [← hL5] at e5 h40
    subst e5
    have HO : Aside (Ytcgpgflnihjpiac.Own W (B + 4) (.slice va L5 vc) (ground T).flatten) := ho
    have HL5 : Aside (L5 = (ground T).flatten.length) := hL5
    have HX1 : Aside (Boxed W B 32 (.slice none 0 0)) := hx1
    have HX2 : Aside (Boxed W (B + 1) 4 (.bool false)) := hx2
    have HKd : Aside (W.heap[D]? = some (.deferred (some []))) := hKd
    clear ho hL5 hKd
    have hcv := hv.cell
    have hc1 := hx1.cell
    have hf1 := hx1.frozen
    have hc2 := hx2.cell
    have hf2 := hx2.frozen
    gi_wp2
    have d1 : ((W.setCell ⟨B, 0, none⟩ (.slice va L5 vc)).setCell ⟨B + 1, 0, none⟩ (.bool true)).heap[D]? = some (.deferred (some [])) := by
      rw [Below.heap_setCell _ _ _ D (by show D ≠ B + 1; omega), Below.heap_setCell _ _ _ D (by show D ≠ B; omega)]
      exact HKd.out
    have k1 := ((HX1.out.set (.slice va L5 vc)).other (B' := B + 1) (by omega) (.bool true)).kept (grownBy_putObj' _ D (.deferred none)) (fun e => by cases e; omega)
    have k2 := ((HX2.out.other (B' := B) (by omega) (.slice va L5 vc)).set (.bool true)).kept (grownBy_putObj' _ D (.deferred none)) (fun e => by cases e; omega)
    have c1 := k1.cell
    have c2 := k2.cell
    refine ⟨by simp, .inl ⟨_, _, rfl, run_takeDeferred d1, ?_⟩⟩
    refine ⟨.tuple #[.slice va L5 vc, .bool true], by simp [results, Try.results42, go_sem, c1, c2], .slice va L5 vc, ?_, ?_, ?_⟩
    · rw [HFew.out, decide_eq_true (by rw [← HL5.out]; exact h40)]
    · rw [HG.out, if_pos (by rw [← HL5.out]; exact h40)]
      refine Own.mono (base := B + 4) ?_ (by rw [← HBe.out]; omega)
      refine ownsRow_other (ownsRow_other (ownsRow_other HO.out (grownBy_setCell' W B (.slice va L5 vc)) fun r e cur he => ?_) (grownBy_setCell' _ (B + 1) (.bool true)) fun r e cur he => ?_) (grownBy_putObj' _ D (.deferred none)) fun r e cur he => ?_
      · cases e; rw [show W.heap[B]? = _ from HX1.out] at he; simp at he
      · cases e; rw [show (W.setCell ⟨B, 0, none⟩ (.slice va L5 vc)).heap[B + 1]? = _ from HX2.out.other (B' := B) (by omega) (.slice va L5 vc)] at he; simp at he
      · cases e; rw [d1] at he; cases he
    · have g1 := grownBy_setCell' W B (.slice va L5 vc)
      have g2 := grownBy_setCell' (W.setCell ⟨B, 0, none⟩ (.slice va L5 vc)) (B + 1) (.bool true)
      have s1 := g1.size
      have b1 : Below B W (W.setCell ⟨B, 0, none⟩ (.slice va L5 vc)) := (Below.refl _ _).grown g1 (by omega) (fun k e => by cases e; omega)
      have b2 : Below B (W.setCell ⟨B, 0, none⟩ (.slice va L5 vc)) ((W.setCell ⟨B, 0, none⟩ (.slice va L5 vc)).setCell ⟨B + 1, 0, none⟩ (.bool true)) := (Below.refl _ _).grown g2 (by omega) (fun k e => by cases e; omega)
      rw [← HBe.out]
      exact ((hbel.trans b1).trans b2).trans (belowK_b (w := w) (by rw [← HBe.out]; exact Nat.le_refl _) _ D _ _ (by rw [← HBe.out]; omega) d1 rfl rfl)
  case stop =>
    rintro D c pre W hD ⟨more, hmore⟩ ⟨rfl, h40, hGX, hB⟩ hKd
    have HKd : Aside (W.heap[D]? = some (.deferred (some []))) := hKd
    have hno : ¬ (ground T).flatten.length ≤ 40 := by
      rw [← hmore, List.flatten_append, List.length_append]; omega
    have HNo : Aside (¬ (ground T).flatten.length ≤ 40) := hno
    have HGX : Aside (GX w B W) := hGX
    clear hKd hno hGX hmore h40
    gi_wp2
    have k1 := HGX.out.1.kept (grownBy_putObj' W D (.deferred none)) (fun e => by cases e; omega)
    have k2 := HGX.out.2.1.kept (grownBy_putObj' W D (.deferred none)) (fun e => by cases e; omega)
    have c1 := k1.cell
    have c2 := k2.cell
    refine ⟨by simp, .inl ⟨_, _, rfl, run_takeDeferred HKd.out, ?_⟩⟩
    refine ⟨.tuple #[.slice none 0 0, .bool false], by simp [results, Try.results42, go_sem, c1, c2], .slice none 0 0, ?_, ?_, ?_⟩
    · rw [HFew.out, decide_eq_false HNo.out]
    · rw [HG.out, if_neg HNo.out]; exact World.ownsRow_nil _ _ _ _
    · rw [← HBe.out]; exact HGX.out.2.2.trans (belowK_b (w := w) (by rw [← HBe.out]; exact Nat.le_refl _) W D _ _ (by rw [← HBe.out]; omega) HKd.out rfl rfl)
end Go.Proofs.Ytcgpgflnihjpiac
