/- For every slice of rows and every slice of changes, the law DiffPatches returns true and leaves its arguments as they were: Patch and Back of the landed diff package answer what the reference answers. No condition. -/
import Derived.Test.YtcgpgflnihjpiacDiff3
import Derived.Test.YtcgpgflnihjpiacRFine
import Derived.Deep.RegionHeld3
import Derived.Deep.AppendLies
import Derived.Test.YtcgpgflnihjpiacRows
import Derived.Test.YtcgpgflnihjpiacBase
import Derived.ProofKit
import Derived.OpenShut
import Derived.ChangeOld
import Derived.Deep.SlicePairs
import Derived.Deep.RegionHeld
import Derived.Test.YtcgpgflnihjpiacCh1
import Derived.Test.YtcgpgflnihjpiacDfBegun
import Derived.Test.YtcgpgflnihjpiacRPatch
namespace Go.Proofs.Ytcgpgflnihjpiac
open Go.RowKit

/-- A step of a drawn region: one change is appended to a row of the call's own. -/
theorem step_append_rc {w : World} {ops : Array Oper} {o : Oper} {a : Act} {K : Act → World → Prop} {Q : Exit → Act → World → Prop} {E : Prop} (hgd : o.guard = none) (s x : Operand)
    (ho : o.op = .call { callee := .builtin .append, args := #[s, x], argTypes := #[29, 29] })
    (base : Nat) (v : Value) (l : List M.Chg) (hs : a.eval s = v) (hown : OwnC w base v l)
    (b : Nat) (x0 y0 z0 : Int) (hx : a.eval x = .slice (some ⟨b, 0, none⟩) 1 1)
    (hc : w.cell? ⟨b, 0, none⟩ = some (.int .i64 x0) ∧ w.cell? ⟨b, 1, none⟩ = some (.int .i64 y0) ∧ w.cell? ⟨b, 2, none⟩ = some (.int .i64 z0))
    (hbig : l.length + 1 ≤ 1000000) (hbase : base ≤ w.heap.size)
    (h : ∀ v' w', OwnC w' base v' (l ++ [(x0, y0, z0)]) → Below base w w' → K (a.put o.dst v') w') : if Region.wanted o (yielded ops a.tmps) = true then Oper.wp Try.prog o a w K Q else E := by
  obtain ⟨i0, hi, hz0, hz1, hz2⟩ := info_parts infoChange
  have hnews : ∀ j u, (encC [(x0, y0, z0)])[j]? = some u → w.cell? ((⟨b, 0, none⟩ : Addr).add j) = some u := by
    intro j u hj
    have hjl : j < (encC [(x0, y0, z0)]).length := (List.getElem?_eq_some_iff.1 hj).1
    rw [encC_length] at hjl
    have hj3 : j < 3 := by simpa using hjl
    rw [Addr.add_lit]
    match j, hj3, hj with
    | 0, _, hj => simp [encC] at hj; rw [← hj]; exact hc.1
    | 1, _, hj => simp [encC] at hj; rw [← hj]; exact hc.2.1
    | 2, _, hj => simp [encC] at hj; rw [← hj]; exact hc.2.2
  refine step_append_lies w hgd s x 29 ho base 50 i0 (.agg #[.int .i64 0, .int .i64 0, .int .i64 0]) 3 24 Try.underlying29 hi hz0 hz1 hz2 rfl (by decide) v l.length (encC l) hs hown ⟨b, 0, none⟩ 1 1 (encC [(x0, y0, z0)]) hx (by rw [encC_length]; rfl) hnews (encC_one _)
    (by decide) (by simp only [maxLen]; omega) (by omega) hbase _ rfl ?_
  intro g cap w' h1 h2 _ _
  refine h _ w' ?_ ((Below.refl _ _).grown h2 hbase fun k hk => (World.ownsRow.lt hown k hk).1)
  unfold OwnC
  rw [encC_append, List.length_append]
  exact h1
theorem OwnC.allocW {w W : World} {base : Nat} {v : Value} {l : List M.Chg} (h : OwnC w base v l) (hW : W.heap = w.heap) (cs : Array Value) (t : TypeId) : OwnC (W.alloc (.cells cs t)) base v l :=
  World.ownsRow.alloc (keep_row h (fun k _ _ => by rw [hW])) _
theorem rc_cells (W : World) (x y z : Int) : (W.alloc (.cells #[.int .i64 x, .int .i64 y, .int .i64 z] 50)).cell? ⟨W.heap.size, 0, none⟩ = some (.int .i64 x) ∧ (W.alloc (.cells #[.int .i64 x, .int .i64 y, .int .i64 z] 50)).cell? ⟨W.heap.size, 1, none⟩ = some (.int .i64 y) ∧ (W.alloc (.cells #[.int .i64 x, .int .i64 y, .int .i64 z] 50)).cell? ⟨W.heap.size, 2, none⟩ = some (.int .i64 z) := by
  refine ⟨?_, ?_, ?_⟩ <;> simp [go_sem]

set_option maxHeartbeats 4000000 in
theorem backOf_any (a : Option Addr) (n cap : Nat) (d : List M.Chg) (w : World) (h : Rc w a n d) (hm : n ≤ 9223372036854775807) :
    Calls Try.prog 26 #[.slice a n cap] w fun e w' => HandsC w w' (M.backV d) (M.backE d) e := by
  have K := cfine_any a n cap d w h hm
  by_cases hf : M.fine d = true
  · have e1 : M.backE d = 0 := by unfold M.backE; rw [if_pos hf]
    have e2 : M.backV d = d.map M.swapC := by unfold M.backV; rw [if_pos hf]
    rw [e1, e2]
    rw [hf] at K
    have KK : Hid (Calls Try.prog 53 #[.slice a n cap] w fun e w' => e = .returned (.bool true) ∧ Below w.heap.size w w') := K
    have hn100 : n ≤ 100 := by have := ((M.fine_iff d).1 hf).len (by omega); have h1 := h.1; omega
    have HR : Aside (Rc w a n d) := h
    clear K h hf e1 e2
    go_enter Try.func26, Try.ntmps26
    go_wp2_with fail
    refine KK.out.mono ?_
    rintro e w1 ⟨rfl, hb1⟩
    have HR1 : Aside (Rc w1 a n d) := HR.out.below hb1 (Nat.le_refl _)
    have hs1 := hb1.size
    clear KK HR
    go_wp2
    go_loopg [4, 5] n (fun g v ix wr => ∃ i : Nat, i + g = n ∧ ix = .int .i64 i ∧ Aside (OwnC wr w1.heap.size v ((d.take i).map M.swapC)) ∧ Below w1.heap.size w1 wr)
    case atStart => exact ⟨0, by omega, rfl, OwnC.nil _ _, Below.refl _ _⟩
    case round =>
      obtain ⟨i, hig, rfl, HO, hbel⟩ := hrel
      have hsz := hbel.size
      by_cases hlt : i < n
      · have hii : (i : Int) < (n : Int) := by omega
        obtain ⟨b, off, rfl, hB, hc⟩ : ∃ b off, a = some ⟨b, off, none⟩ ∧ b < w1.heap.size ∧ ∀ i, i < n → w1.cell? ⟨b, off + i * 3, none⟩ = some (.int .i64 (d.getD i (0, 0, 0)).1) ∧ w1.cell? ⟨b, off + i * 3 + 1, none⟩ = some (.int .i64 (d.getD i (0, 0, 0)).2.1) ∧ w1.cell? ⟨b, off + i * 3 + 2, none⟩ = some (.int .i64 (d.getD i (0, 0, 0)).2.2) := by
          rcases HR1.out.cases with ⟨h0, _⟩ | ⟨b, off, e, _, _, hB, hc⟩
          · omega
          · exact ⟨b, off, e, hB, hc⟩
        obtain ⟨x, y, z, hxyz⟩ : ∃ x y z, d.getD i (0, 0, 0) = (x, y, z) := ⟨_, _, _, rfl⟩
        obtain ⟨k1, k2, k3⟩ := hc i hlt
        rw [hxyz] at k1 k2 k3
        have p0 : wr.cell? ⟨b, off + i * 3, none⟩ = some (.int .i64 x) := (hbel.cell (p := ⟨b, off + i * 3, none⟩) hB).trans k1
        have p1 : wr.cell? ⟨b, off + i * 3 + 1, none⟩ = some (.int .i64 y) := (hbel.cell (p := ⟨b, off + i * 3 + 1, none⟩) hB).trans k2
        have p2 : wr.cell? ⟨b, off + i * 3 + 2, none⟩ = some (.int .i64 z) := (hbel.cell (p := ⟨b, off + i * 3 + 2, none⟩) hB).trans k3
        have HMt : Aside ((d.take (i + 1)).map M.swapC = (d.take i).map M.swapC ++ [(x, z, y)]) := by unfold Aside; rw [M.map_take d i (by rw [HR1.out.1]; exact hlt), hxyz]; rfl
        have HLe : Aside (((d.take i).map M.swapC).length + 1 ≤ 1000000) := by unfold Aside; rw [List.length_map, List.length_take]; omega
        have HOD : Hid (∀ W : World, W.heap = wr.heap → OwnC (W.alloc (.cells #[.int .i64 x, .int .i64 z, .int .i64 y] 50)) w1.heap.size u4 ((d.take i).map M.swapC)) := fun W hW => HO.out.allocW hW _ _
        have HK : Hid (∀ W, Below w1.heap.size wr W → W.cell? ⟨b, off + i * 3, none⟩ = some (.int .i64 x) ∧ W.cell? ⟨b, off + i * 3 + 1, none⟩ = some (.int .i64 y) ∧ W.cell? ⟨b, off + i * 3 + 2, none⟩ = some (.int .i64 z)) := fun W hW => ⟨(hW.cell (p := ⟨b, off + i * 3, none⟩) hB).trans p0, (hW.cell (p := ⟨b, off + i * 3 + 1, none⟩) hB).trans p1, (hW.cell (p := ⟨b, off + i * 3 + 2, none⟩) hB).trans p2⟩
        clear hc hxyz k1 k2 k3 HO
        go_wp2_with fail
        go_region_held3 (fun W => W.cell? ⟨b, off + i * 3, none⟩ = some (.int .i64 x) ∧ W.cell? ⟨b, off + i * 3 + 1, none⟩ = some (.int .i64 y) ∧ W.cell? ⟨b, off + i * 3 + 2, none⟩ = some (.int .i64 z)) (first | (simp [*]; done) | exact hA.out | go_keep) (first | (refine step_append_rc rfl _ _ rfl w1.heap.size _ ((d.take i).map M.swapC) rfl (HOD.out _ rfl) wr.heap.size x z y rfl (rc_cells _ _ _ _) HLe.out (by simp; omega) ?_; intro v5 w5 ho5 hb5; have HB5 : Hid (Below w1.heap.size wr w5) := (((Below.refl _ _).drew).alloc hsz _).trans hb5; have hA : Hid (w5.cell? ⟨b, off + i * 3, none⟩ = some (.int .i64 x) ∧ w5.cell? ⟨b, off + i * 3 + 1, none⟩ = some (.int .i64 y) ∧ w5.cell? ⟨b, off + i * 3 + 2, none⟩ = some (.int .i64 z)) := HK.out w5 HB5.out; obtain ⟨s0, s1, s2⟩ := hA.out; have HO5 : Hid (OwnC w5 w1.heap.size v5 ((d.take i).map M.swapC ++ [(x, z, y)])) := (by unfold Hid; simpa [List.map_take] using ho5); clear ho5 hb5))
        have HO2 : Aside (OwnC w5 w1.heap.size v5 ((d.take (i + 1)).map M.swapC)) := by unfold Aside; rw [HMt.out]; exact HO5.out
        have hb4 : Below w1.heap.size w1 w5 := hbel.trans HB5.out
        clear HO5 hA
        go_wp2
        go_roundg (gk - 1)
        case measure => omega
        case rel => exact ⟨i + 1, by omega, by go_num, HO2, hb4⟩
      · have e1 : d.take i = d := List.take_of_length_le (by rw [HR1.out.1]; omega)
        have HO2 : Aside (OwnC wr w1.heap.size u4 (d.map M.swapC)) := by have h := HO.out; rw [e1] at h; exact h
        obtain ⟨va, vc, hv, hr, hl, hm2⟩ := HO2.out.rc
        have HV : Hid (u4 = .slice va (d.map M.swapC).length vc) := hv
        have HVr : Hid (Rc wr va (d.map M.swapC).length (d.map M.swapC)) := hr
        clear e1 hv hr
        go_wp2
        go_ret2
        rw [HV.out]
        exact ⟨va, _, vc, rfl, HVr.out, hl, hm2, hb1.trans (hbel.mono hs1)⟩
  · have e1 : M.backE d = 1 := by unfold M.backE; rw [if_neg hf]
    have e2 : M.backV d = [] := by unfold M.backV; rw [if_neg hf]
    rw [e1, e2]
    have hf2 : M.fine d = false := by simpa using hf
    rw [hf2] at K
    have KK : Hid (Calls Try.prog 53 #[.slice a n cap] w fun e w' => e = .returned (.bool false) ∧ Below w.heap.size w w') := K
    clear K h hf e1 e2 hf2
    go_enter Try.func26, Try.ntmps26
    go_wp2_with fail
    refine KK.out.mono ?_
    rintro e w1 ⟨rfl, hb1⟩
    go_wp2
    go_ret2
    exact HandsC.err 1 hb1
end Go.Proofs.Ytcgpgflnihjpiac

namespace Go.Proofs.Ytcgpgflnihjpiac
open Go.ChangeShapes Go.WideShapes Go.ChangeAt Go.RowKit Go.Deep

theorem ownTry : ownKnob Try.prog.godebug = none := by kernel_rfl
theorem laidTry : laidOutB Try.prog = true := by kernel_rfl

theorem open_rows {H : Type} {enc : TypeId × Value → H} {w : World} {base : Nat} {spare : Nat → Bool} {held : Bool} {fuel : Nat} {a : Option Addr} {len cap : Nat} {x : DataW H × List MemPlace}
    (h : DataW.trod enc Try.prog w base spare held fuel 32 [.slice a len cap] = some x) : ∃ l, Rd w a len l ∧ len ≤ cap ∧ cap ≤ maxLen ∧ (a = none → len = 0 ∧ cap = 0) := by
  rcases open_slice_pairs Try.underlying32 Try.underlying56 (by kernel_rfl) rfl rfl (by kernel_rfl) (by kernel_rfl) h with ⟨hcs, _⟩ | ⟨ad, len', cap', m, n, V0, V1, D0, D1, P0, P1, hcs, _, hl, hm, hmm, _, hc⟩
  · simp at hcs
    obtain ⟨rfl, rfl, rfl⟩ := hcs
    exact ⟨[], ⟨rfl, Or.inl rfl⟩, Nat.le_refl _, by simp [maxLen], fun _ => ⟨rfl, rfl⟩⟩
  · simp at hcs
    obtain ⟨rfl, rfl, rfl⟩ := hcs
    have hlm : len ≤ m := by rw [hmm]; split <;> omega
    have each : ∀ i, i < len → ∃ q : Int × Int, w.cell? (ad.add (i * 2)) = some (.int .i64 q.1) ∧ w.cell? (ad.add (i * 2 + 1)) = some (.int .i64 q.2) := by
      intro i hi
      obtain ⟨c0, c1, t0, t1⟩ := hc i (by omega)
      obtain ⟨x0, e0, _, _⟩ := DataW.trod_int (k := .i64) Try.underlying3 t0
      obtain ⟨x1, e1, _, _⟩ := DataW.trod_int (k := .i64) Try.underlying3 t1
      simp at e0 e1
      rw [e0] at c0
      rw [e1] at c1
      exact ⟨(x0, x1), c0, c1⟩
    obtain ⟨q, hq⟩ := choose_lt each
    refine ⟨(List.range len).map q, ⟨by simp, ?_⟩, hl, hm, fun h => by simp at h⟩
    by_cases h0 : len = 0
    · exact Or.inl h0
    · obtain ⟨b, off, spot⟩ := ad
      have hs : spot = none := by
        have h1 := (hq 0 (by omega)).1
        simpa [Addr.add] using World.cell?_spot h1
      subst hs
      refine Or.inr ⟨b, off, rfl, World.block_lt_of_cell? w _ (hq 0 (by omega)).1, fun i hi => ?_⟩
      have h1 := hq i hi
      rw [Addr.add_lit, Addr.add_lit, ← Nat.add_assoc] at h1
      have e : ((List.range len).map q).getD i (0, 0) = q i := by simp [List.getD, hi]
      rw [e]
      exact h1
end Go.Proofs.Ytcgpgflnihjpiac

namespace Go.Proofs.Ytcgpgflnihjpiac
open Go.ChangeShapes Go.WideShapes Go.ChangeAt Go.RowKit Go.Deep

theorem list3 {α : Type} (l : List α) (h : l.length = 3) : ∃ a b c, l = [a, b, c] := by
  match l, h with
  | [a, b, c], _ => exact ⟨a, b, c, rfl⟩
set_option maxRecDepth 10000 in
theorem open_changes {H : Type} {enc : TypeId × Value → H} {w : World} {base : Nat} {spare : Nat → Bool} {held : Bool} {fuel : Nat} {a : Option Addr} {len cap : Nat} {x : DataW H × List MemPlace}
    (h : DataW.trod enc Try.prog w base spare held fuel 29 [.slice a len cap] = some x) : ∃ l, Rc w a len l ∧ len ≤ cap ∧ cap ≤ maxLen := by
  rcases open_slice Try.underlying29 h with ⟨hcs, _⟩ | ⟨ad, len', cap', m, n, D, Pl, hcs, hb, hl, hm, hmm, _, hx⟩
  · simp at hcs
    obtain ⟨rfl, rfl, rfl⟩ := hcs
    exact ⟨[], ⟨rfl, Or.inl rfl⟩, Nat.le_refl _, by simp [maxLen]⟩
  · simp at hcs
    obtain ⟨rfl, rfl, rfl⟩ := hcs
    have hlm : len ≤ m := by rw [hmm]; split <;> omega
    have ce : Try.prog.cellsOf 50 = 3 := by kernel_rfl
    have each : ∀ i, i < len → ∃ q : M.Chg, w.cell? (ad.add (i * 3)) = some (.int .i64 q.1) ∧ w.cell? (ad.add (i * 3 + 1)) = some (.int .i64 q.2.1) ∧ w.cell? (ad.add (i * 3 + 2)) = some (.int .i64 q.2.2) := by
      intro i hi
      obtain ⟨cs', h1, h2⟩ := hx i (by omega)
      rw [ce] at h1
      obtain ⟨_, hlen, hcell⟩ := World.cells?_some h1
      obtain ⟨xs, k, hk, hxy, _, hxl, hf⟩ := DataW.trod_struct Try.underlying50 h2
      obtain ⟨v0, v1, v2, rfl⟩ := list3 cs' hlen
      obtain ⟨z0, z1, z2, rfl⟩ := list3 xs hxl
      have g0 := hf 0 _ rfl
      have g1 := hf 1 _ rfl
      have g2 := hf 2 _ rfl
      have c1 : Try.prog.cellsOf 3 = 1 := by kernel_rfl
      simp [c1] at g0 g1 g2
      obtain ⟨y0, g0⟩ : ∃ y, DataW.trod enc Try.prog w base spare held k 3 [v0] = some y := ⟨_, g0⟩
      obtain ⟨y1, g1⟩ : ∃ y, DataW.trod enc Try.prog w base spare held k 3 [v1] = some y := ⟨_, g1⟩
      obtain ⟨y2, g2⟩ : ∃ y, DataW.trod enc Try.prog w base spare held k 3 [v2] = some y := ⟨_, g2⟩
      obtain ⟨x0, e0, _, _⟩ := DataW.trod_int (k := .i64) Try.underlying3 g0
      obtain ⟨x1, e1, _, _⟩ := DataW.trod_int (k := .i64) Try.underlying3 g1
      obtain ⟨x2, e2, _, _⟩ := DataW.trod_int (k := .i64) Try.underlying3 g2
      simp at e0 e1 e2
      have q0 := hcell 0 (by omega)
      have q1 := hcell 1 (by omega)
      have q2 := hcell 2 (by omega)
      rw [add_add] at q0 q1 q2
      subst e0 e1 e2
      exact ⟨(x0, x1, x2), by simpa using q0, by simpa using q1, by simpa using q2⟩
    obtain ⟨q, hq⟩ := choose_lt each
    refine ⟨(List.range len).map q, ⟨by simp, ?_⟩, hl, hm⟩
    by_cases h0 : len = 0
    · exact Or.inl h0
    · obtain ⟨b, off, spot⟩ := ad
      have hs : spot = none := by
        have h1 := (hq 0 (by omega)).1
        simpa [Addr.add] using World.cell?_spot h1
      subst hs
      refine Or.inr ⟨b, off, rfl, World.block_lt_of_cell? w _ (hq 0 (by omega)).1, fun i hi => ?_⟩
      have h1 := hq i hi
      rw [Addr.add_lit, Addr.add_lit, Addr.add_lit, ← Nat.add_assoc, ← Nat.add_assoc] at h1
      have e : ((List.range len).map q).getD i (0, 0, 0) = q i := by simp [List.getD, hi]
      rw [e]
      exact h1
end Go.Proofs.Ytcgpgflnihjpiac

namespace Go.Proofs.Ytcgpgflnihjpiac
open Go.ChangeShapes Go.WideShapes Go.ChangeAt Go.RowKit

set_option maxHeartbeats 8000000 in
theorem diffPatches_walk (a1 a2 : Option Addr) (n1 n2 c1 c2 : Nat) (l : List (Int × Int)) (d : List M.Chg) (w : World) (h1 : Rd w a1 n1 l) (h2 : Rc w a2 n2 d) (k1 : n1 ≤ 9223372036854775807) (k2 : n2 ≤ 9223372036854775807) (hnil : a1 = none → n1 = 0 ∧ c1 = 0) :
    Calls Try.prog 8 #[.slice a1 n1 c1, .slice a2 n2 c2] w fun e w' => e = .returned (.bool true) ∧ Below w.heap.size w w' := by
  have begun : Hid (∀ W, Below w.heap.size w W → Calls Try.prog 21 #[] W fun e w' => e = .returned (.bool true) ∧ Below w.heap.size w w' ∧ Below W.heap.size W w') := fun W hW => (diffBegun_any W).mono fun e w' ⟨h, hb⟩ => ⟨h, below2 hW hb, hb⟩
  have P1 : Hid (∀ W, Below w.heap.size w W → Calls Try.prog 23 #[.slice a1 n1 c1, .slice a2 n2 c2] W fun e w' => Hands W w' (M.patchV l d) (M.patchE l d) e) := fun W hW => patch_any a1 n1 c1 l a2 n2 c2 d W (h1.below hW (Nat.le_refl _)) k1 hnil (h2.below hW (Nat.le_refl _)) k2
  have P2 : Hid (∀ W, Below w.heap.size w W → Calls Try.prog 24 #[.slice a2 n2 c2] W fun e w' => HandsC W w' (M.backV d) (M.backE d) e) := fun W hW => back_any a2 n2 c2 d W (h2.below hW (Nat.le_refl _)) k2
  have P3 : Hid (∀ W, Below w.heap.size w W → Calls Try.prog 25 #[.slice a1 n1 c1, .slice a2 n2 c2] W fun e w' => Hands W w' (M.patchV l d) (M.patchE l d) e) := fun W hW => patchOf_any a1 n1 c1 l a2 n2 c2 d W (h1.below hW (Nat.le_refl _)) k1 (h2.below hW (Nat.le_refl _)) k2
  have P4 : Hid (∀ W, Below w.heap.size w W → Calls Try.prog 26 #[.slice a2 n2 c2] W fun e w' => HandsC W w' (M.backV d) (M.backE d) e) := fun W hW => backOf_any a2 n2 c2 d W (h2.below hW (Nat.le_refl _)) k2
  obtain ⟨R, hR⟩ : ∃ R, R = M.patchV l d := ⟨_, rfl⟩
  obtain ⟨E, hE⟩ : ∃ E, E = M.patchE l d := ⟨_, rfl⟩
  obtain ⟨B, hBB⟩ : ∃ B, B = M.backV d := ⟨_, rfl⟩
  obtain ⟨F, hF⟩ : ∃ F, F = M.backE d := ⟨_, rfl⟩
  rw [← hR, ← hE] at P1 P3
  rw [← hBB, ← hF] at P2 P4
  clear h1 h2 k1 k2 hnil hR hE hBB hF
  go_enter Try.func8, Try.ntmps8
  go_wp2_with fail
  refine (P1.out _ (Below.refl _ _)).mono ?_
  rintro e w1 ⟨xa, xn, xc, rfl, r, g1, g2, _, q1⟩
  have hxn : xn ≤ 9223372036854775807 := by unfold maxLen at g2; omega
  have X1 : Hid (Rd w1 xa xn R) := r
  clear r g1 g2
  go_wp2_with fail
  refine (P2.out _ q1).mono ?_
  rintro e w2 ⟨ya, yn, yc, rfl, r, g1, g2, ba⟩
  have hyn : yn ≤ 9223372036854775807 := by unfold maxLen at g2; omega
  have Y2 : Hid (Rc w2 ya yn B) := r
  have X2 : Hid (Rd w2 xa xn R) := X1.out.below ba (Nat.le_refl _)
  have q2 := below2 q1 ba
  clear r g1 g2 ba X1 q1
  go_wp2_with fail
  refine (P3.out _ q2).mono ?_
  rintro e w3 ⟨ua, un, uc, rfl, r, g1, g2, _, ba⟩
  have U3 : Hid (Rd w3 ua un R) := r
  have Y3 : Hid (Rc w3 ya yn B) := Y2.out.below ba (Nat.le_refl _)
  have X3 : Hid (Rd w3 xa xn R) := X2.out.below ba (Nat.le_refl _)
  have q3 := below2 q2 ba
  clear r g1 g2 ba X2 Y2 q2
  go_wp2_with fail
  refine (P4.out _ q3).mono ?_
  rintro e w4 ⟨va, vn, vc, rfl, r, g1, g2, ba⟩
  have V4 : Hid (Rc w4 va vn B) := r
  have U4 : Hid (Rd w4 ua un R) := U3.out.below ba (Nat.le_refl _)
  have Y4 : Hid (Rc w4 ya yn B) := Y3.out.below ba (Nat.le_refl _)
  have X4 : Hid (Rd w4 xa xn R) := X3.out.below ba (Nat.le_refl _)
  have q4 := below2 q3 ba
  clear r g1 g2 ba X3 Y3 U3 q3
  go_wp2_with fail
  refine (begun.out _ q4).mono ?_
  rintro e w5 ⟨rfl, q5, ba⟩
  have V5 : Hid (Rc w5 va vn B) := V4.out.below ba (Nat.le_refl _)
  have U5 : Hid (Rd w5 ua un R) := U4.out.below ba (Nat.le_refl _)
  have Y5 : Hid (Rc w5 ya yn B) := Y4.out.below ba (Nat.le_refl _)
  have X5 : Hid (Rd w5 xa xn R) := X4.out.below ba (Nat.le_refl _)
  clear ba X4 Y4 U4 V4 q4
  go_wp2_with fail
  refine (same_any _ _ _ _ _ _ _ _ _ X5.out U5.out hxn).mono ?_
  rintro e w6 ⟨rfl, ba⟩
  have hd1 : decide (R = R) = true := by simp
  have hd2 : (E == E) = true := by simp
  have V6 : Hid (Rc w6 va vn B) := V5.out.below ba (Nat.le_refl _)
  have Y6 : Hid (Rc w6 ya yn B) := Y5.out.below ba (Nat.le_refl _)
  have q6 := below2 q5 ba
  clear ba X5 Y5 U5 V5 q5
  go_wp2_with fail
  refine (csame_any _ _ _ _ _ _ _ _ _ Y6.out V6.out hyn).mono ?_
  rintro e w7 ⟨rfl, ba⟩
  have hd3 : decide (B = B) = true := by simp
  have hd4 : (F == F) = true := by simp
  have q7 := below2 q6 ba
  go_wp2
  go_ret
  exact ⟨by simp, q7⟩

set_option maxRecDepth 100000 in
theorem diffPatches_lifted (os : Os) (started : os.Started) (H : Type) (enc : TypeId × Value → H) :
    ReturnsInHanded {} Try.checked os 8 .any (Rows.diffPatchesSpec.pre6 enc Try.prog Try.f8 Rows.diffPatchesRow.domain false) (Rows.diffPatchesSpec.post enc Try.prog Try.f8 false true false false) := by
  refine returnsInHanded_of_change (C := Try.checked) ownTry started (by kernel_rfl) Try.func8
    (ChangeSpec.witness6 (enc := enc) (C := Try.checked) false ⟨#[], #[.slice none 0 0, .slice none 0 0], []⟩ 8 (by kernel_rfl) (by kernel_rfl) (by kernel_rfl) (by kernel_rfl)) ?_
  intro W base args ds gs before hval0 hW hcnd _
  have hval : ∀ (j : Nat) t v, Try.f8.params[j]? = some t → args[j]? = some v → Value.okWide Try.prog W .any base t v := hval0
  have hW' := hW
  obtain ⟨p, q, hA0, hV, rfl, hfz, hnd⟩ := hW
  have hA : DataW.TrodAll enc Try.prog W 0 (fun _ => true) true Try.f8.params.toList args.toList ds p := hA0
  rw [Try.params8] at hA hval
  obtain ⟨v0, vs0, d0, ds0, p0, q0, hargs, rfl, rfl, h0, r0⟩ := trodAll_cons hA
  obtain ⟨v1, vs1, d1, ds1, p1, q1, rfl, rfl, rfl, h1, r1⟩ := trodAll_cons r0
  obtain ⟨rfl, rfl, rfl⟩ := trodAll_nil r1
  obtain rfl : args = #[v0, v1] := by cases args; simp_all
  obtain ⟨rfl, rfl⟩ := trodVars_none hV
  obtain ⟨a0, len0, cap0, rfl⟩ := okWide_slice Try.underlying32 (hval 0 32 v0 rfl rfl)
  have k0 := h0
  have lt0 : ∀ x ∈ p0, x.block < W.heap.size := by obtain ⟨m, hm⟩ := k0; exact DataW.trod_lt m _ _ _ hm
  obtain ⟨l0, hrd0, hl0, hm0, hnil0⟩ : ∃ l, Rd W a0 len0 l ∧ len0 ≤ cap0 ∧ cap0 ≤ maxLen ∧ (a0 = none → len0 = 0 ∧ cap0 = 0) := by
    obtain ⟨fuel, hf⟩ := h0
    exact open_rows (by simpa [Value.cells] using hf)
  obtain ⟨a1, len1, cap1, rfl⟩ := okWide_slice Try.underlying29 (hval 1 29 v1 rfl rfl)
  have k1 := h1
  have lt1 : ∀ x ∈ p1, x.block < W.heap.size := by obtain ⟨m, hm⟩ := k1; exact DataW.trod_lt m _ _ _ hm
  obtain ⟨L1, hrd1, hl1, hm1⟩ : ∃ L, Rc W a1 len1 L ∧ len1 ≤ cap1 ∧ cap1 ≤ maxLen := by
    obtain ⟨fuel, hf⟩ := h1
    exact open_changes (by simpa [Value.cells] using hf)
  clear hA0 hval0
  refine (diffPatches_walk a0 a1 len0 len1 cap0 cap1 l0 L1 W hrd0 hrd1 (by unfold maxLen at hm0; omega) (by unfold maxLen at hm1; omega) hnil0).mono fun e W' ⟨he, bel⟩ => ?_
  subst he
  exact ⟨_, rfl, _, _, _, [], _, [], hW', trodAll_mk1 (shut_bool Try.underlying4 _), (trodAll_cons_mk (Below.trod laidTry (by kernel_rfl) (of_decide_eq_true (by kernel_rfl)) k0 bel lt0) (trodAll_cons_mk (Below.trod laidTry (by kernel_rfl) (of_decide_eq_true (by kernel_rfl)) k1 bel lt1) trodAll_mk0)), rfl, bel.frame _, fun h => by cases h⟩

theorem diffPatches_holds : Rows.DiffPatchesSaid :=
  OpenClaim.holds_of_wide 8 Try.f8 rfl rfl rfl rfl rfl rfl rfl ⟨rfl, rfl, rfl, rfl, rfl⟩ rfl rfl rfl rfl rfl (by kernel_rfl) Try.func8 (by kernel_rfl)
    (of_decide_eq_true (by kernel_rfl)) (by unfold Func.isWrapper; first | (rw [if_pos (by decide +kernel)]; kernel_rfl) | (rw [if_neg (by decide +kernel)]; exact ⟨rfl, rfl⟩))
    (fun os started H enc _ => diffPatches_lifted os started H enc)
#print axioms diffPatches_holds
end Go.Proofs.Ytcgpgflnihjpiac
