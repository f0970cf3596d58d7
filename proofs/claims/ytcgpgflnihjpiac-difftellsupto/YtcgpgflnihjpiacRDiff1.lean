/- The reference's BackOf. -/
import Derived.Test.YtcgpgflnihjpiacDiff3
import Derived.Test.YtcgpgflnihjpiacRFine
import Derived.Deep.RegionHeld3
import Derived.Deep.AppendLies
namespace Go.Proofs.Ytcgpgflnihjpiac
open Go.RowKit

/-- A step of a drawn region: one change is appended to a row of the call's own. -/
theorem step_append_rc {w : World} {ops : Array Oper} {o : Oper} {a : Act} {K : Act → World → Prop} {Q : Exit → Act → World → Prop} {E : Prop} (hgd : o.guard = none) (s x : Operand)
    (ho : o.op = .call { callee := .builtin .append, args := #[s, x], argTypes := #[29, 29] })
    (base : Nat) (v : Value) (l : List M.Chg) (hs : a.eval s = v) (hown : OwnC w base v l)
    (b : Nat) (x0 y0 z0 : Int) (hx : a.eval x = .slice (some ⟨b, 0, none⟩) 1 1)
    (hc : w.cell? ⟨b, 0, none⟩ = some (.int .i64 x0) ∧ w.cell? ⟨b, 1, none⟩ = some (.int .i64 y0) ∧ w.cell? ⟨b, 2, none⟩ = some (.int .i64 z0))
    (hbig : l.length + 1 ≤ 1000000) (hbase : base ≤ w.heap.size)
    (h : ∀ v' w', OwnC w' base v' (l ++ [(x0, y0, z0)]) → Below base w w' → K (a.put o.dst v') w') : if Region.wanted o (yielded ops a.tmps) = true then Oper.wp Try.prog o a w K Q else E := by
  obtain ⟨i0, hi, hz0, hz1, hz2⟩ := info_parts infoChange
  have hnews : ∀ j u, (encC [(x0, y0, z0)])[j]? = some u → w.cell? ((⟨b, 0, none⟩ : Addr).add j) = some u := by
    intro j u hj
    have hjl : j < (encC [(x0, y0, z0)]).length := (List.getElem?_eq_some_iff.1 hj).1
    rw [encC_length] at hjl
    have hj3 : j < 3 := by simpa using hjl
    rw [Addr.add_lit]
    match j, hj3, hj with
    | 0, _, hj => simp [encC] at hj; rw [← hj]; exact hc.1
    | 1, _, hj => simp [encC] at hj; rw [← hj]; exact hc.2.1
    | 2, _, hj => simp [encC] at hj; rw [← hj]; exact hc.2.2
  refine step_append_lies w hgd s x 29 ho base 50 i0 (.agg #[.int .i64 0, .int .i64 0, .int .i64 0]) 3 24 Try.underlying29 hi hz0 hz1 hz2 rfl (by decide) v l.length (encC l) hs hown ⟨b, 0, none⟩ 1 1 (encC [(x0, y0, z0)]) hx (by rw [encC_length]; rfl) hnews (encC_one _)
    (by decide) (by simp only [maxLen]; omega) (by omega) hbase _ rfl ?_
  intro g cap w' h1 h2 _ _
  refine h _ w' ?_ ((Below.refl _ _).grown h2 hbase fun k hk => (World.ownsRow.lt hown k hk).1)
  unfold OwnC
  rw [encC_append, List.length_append]
  exact h1
theorem OwnC.allocW {w W : World} {base : Nat} {v : Value} {l : List M.Chg} (h : OwnC w base v l) (hW : W.heap = w.heap) (cs : Array Value) (t : TypeId) : OwnC (W.alloc (.cells cs t)) base v l :=
  World.ownsRow.alloc (keep_row h (fun k _ _ => by rw [hW])) _
theorem rc_cells (W : World) (x y z : Int) : (W.alloc (.cells #[.int .i64 x, .int .i64 y, .int .i64 z] 50)).cell? ⟨W.heap.size, 0, none⟩ = some (.int .i64 x) ∧ (W.alloc (.cells #[.int .i64 x, .int .i64 y, .int .i64 z] 50)).cell? ⟨W.heap.size, 1, none⟩ = some (.int .i64 y) ∧ (W.alloc (.cells #[.int .i64 x, .int .i64 y, .int .i64 z] 50)).cell? ⟨W.heap.size, 2, none⟩ = some (.int .i64 z) := by
  refine ⟨?_, ?_, ?_⟩ <;> simp [go_sem]

set_option maxHeartbeats 4000000 in
theorem backOf_any (a : Option Addr) (n cap : Nat) (d : List M.Chg) (w : World) (h : Rc w a n d) (hm : n ≤ 9223372036854775807) :
    Calls Try.prog 26 #[.slice a n cap] w fun e w' => HandsC w w' (M.backV d) (M.backE d) e := by
  have K := cfine_any a n cap d w h hm
  by_cases hf : M.fine d = true
  · have e1 : M.backE d = 0 := by unfold M.backE; rw [if_pos hf]
    have e2 : M.backV d = d.map M.swapC := by unfold M.backV; rw [if_pos hf]
    rw [e1, e2]
    rw [hf] at K
    have KK : Hid (Calls Try.prog 53 #[.slice a n cap] w fun e w' => e = .returned (.bool true) ∧ Below w.heap.size w w') := K
    have hn100 : n ≤ 100 := by have := ((M.fine_iff d).1 hf).len (by omega); have h1 := h.1; omega
    have HR : Aside (Rc w a n d) := h
    clear K h hf e1 e2
    go_enter Try.func26, Try.ntmps26
    go_wp2_with fail
    refine KK.out.mono ?_
    rintro e w1 ⟨rfl, hb1⟩
    have HR1 : Aside (Rc w1 a n d) := HR.out.below hb1 (Nat.le_refl _)
    have hs1 := hb1.size
    clear KK HR
    go_wp2
    go_loopg [4, 5] n (fun g v ix wr => ∃ i : Nat, i + g = n ∧ ix = .int .i64 i ∧ Aside (OwnC wr w1.heap.size v ((d.take i).map M.swapC)) ∧ Below w1.heap.size w1 wr)
    case atStart => exact ⟨0, by omega, rfl, OwnC.nil _ _, Below.refl _ _⟩
    case round =>
      obtain ⟨i, hig, rfl, HO, hbel⟩ := hrel
      have hsz := hbel.size
      by_cases hlt : i < n
      · have hii : (i : Int) < (n : Int) := by omega
        obtain ⟨b, off, rfl, hB, hc⟩ : ∃ b off, a = some ⟨b, off, none⟩ ∧ b < w1.heap.size ∧ ∀ i, i < n → w1.cell? ⟨b, off + i * 3, none⟩ = some (.int .i64 (d.getD i (0, 0, 0)).1) ∧ w1.cell? ⟨b, off + i * 3 + 1, none⟩ = some (.int .i64 (d.getD i (0, 0, 0)).2.1) ∧ w1.cell? ⟨b, off + i * 3 + 2, none⟩ = some (.int .i64 (d.getD i (0, 0, 0)).2.2) := by
          rcases HR1.out.cases with ⟨h0, _⟩ | ⟨b, off, e, _, _, hB, hc⟩
          · omega
          · exact ⟨b, off, e, hB, hc⟩
        obtain ⟨x, y, z, hxyz⟩ : ∃ x y z, d.getD i (0, 0, 0) = (x, y, z) := ⟨_, _, _, rfl⟩
        obtain ⟨k1, k2, k3⟩ := hc i hlt
        rw [hxyz] at k1 k2 k3
        have p0 : wr.cell? ⟨b, off + i * 3, none⟩ = some (.int .i64 x) := (hbel.cell (p := ⟨b, off + i * 3, none⟩) hB).trans k1
        have p1 : wr.cell? ⟨b, off + i * 3 + 1, none⟩ = some (.int .i64 y) := (hbel.cell (p := ⟨b, off + i * 3 + 1, none⟩) hB).trans k2
        have p2 : wr.cell? ⟨b, off + i * 3 + 2, none⟩ = some (.int .i64 z) := (hbel.cell (p := ⟨b, off + i * 3 + 2, none⟩) hB).trans k3
        have HMt : Aside ((d.take (i + 1)).map M.swapC = (d.take i).map M.swapC ++ [(x, z, y)]) := by unfold Aside; rw [M.map_take d i (by rw [HR1.out.1]; exact hlt), hxyz]; rfl
        have HLe : Aside (((d.take i).map M.swapC).length + 1 ≤ 1000000) := by unfold Aside; rw [List.length_map, List.length_take]; omega
        have HOD : Hid (∀ W : World, W.heap = wr.heap → OwnC (W.alloc (.cells #[.int .i64 x, .int .i64 z, .int .i64 y] 50)) w1.heap.size u4 ((d.take i).map M.swapC)) := fun W hW => HO.out.allocW hW _ _
        have HK : Hid (∀ W, Below w1.heap.size wr W → W.cell? ⟨b, off + i * 3, none⟩ = some (.int .i64 x) ∧ W.cell? ⟨b, off + i * 3 + 1, none⟩ = some (.int .i64 y) ∧ W.cell? ⟨b, off + i * 3 + 2, none⟩ = some (.int .i64 z)) := fun W hW => ⟨(hW.cell (p := ⟨b, off + i * 3, none⟩) hB).trans p0, (hW.cell (p := ⟨b, off + i * 3 + 1, none⟩) hB).trans p1, (hW.cell (p := ⟨b, off + i * 3 + 2, none⟩) hB).trans p2⟩
        clear hc hxyz k1 k2 k3 HO
        go_wp2_with fail
        go_region_held3 (fun W => W.cell? ⟨b, off + i * 3, none⟩ = some (.int .i64 x) ∧ W.cell? ⟨b, off + i * 3 + 1, none⟩ = some (.int .i64 y) ∧ W.cell? ⟨b, off + i * 3 + 2, none⟩ = some (.int .i64 z)) (first | (simp [*]; done) | exact hA.out | go_keep) (first | (refine step_append_rc rfl _ _ rfl w1.heap.size _ ((d.take i).map M.swapC) rfl (HOD.out _ rfl) wr.heap.size x z y rfl (rc_cells _ _ _ _) HLe.out (by simp; omega) ?_; intro v5 w5 ho5 hb5; have HB5 : Hid (Below w1.heap.size wr w5) := (((Below.refl _ _).drew).alloc hsz _).trans hb5; have hA : Hid (w5.cell? ⟨b, off + i * 3, none⟩ = some (.int .i64 x) ∧ w5.cell? ⟨b, off + i * 3 + 1, none⟩ = some (.int .i64 y) ∧ w5.cell? ⟨b, off + i * 3 + 2, none⟩ = some (.int .i64 z)) := HK.out w5 HB5.out; obtain ⟨s0, s1, s2⟩ := hA.out; have HO5 : Hid (OwnC w5 w1.heap.size v5 ((d.take i).map M.swapC ++ [(x, z, y)])) := (by unfold Hid; simpa [List.map_take] using ho5); clear ho5 hb5))
        have HO2 : Aside (OwnC w5 w1.heap.size v5 ((d.take (i + 1)).map M.swapC)) := by unfold Aside; rw [HMt.out]; exact HO5.out
        have hb4 : Below w1.heap.size w1 w5 := hbel.trans HB5.out
        clear HO5 hA
        go_wp2
        go_roundg (gk - 1)
        case measure => omega
        case rel => exact ⟨i + 1, by omega, by go_num, HO2, hb4⟩
      · have e1 : d.take i = d := List.take_of_length_le (by rw [HR1.out.1]; omega)
        have HO2 : Aside (OwnC wr w1.heap.size u4 (d.map M.swapC)) := by have h := HO.out; rw [e1] at h; exact h
        obtain ⟨va, vc, hv, hr, hl, hm2⟩ := HO2.out.rc
        have HV : Hid (u4 = .slice va (d.map M.swapC).length vc) := hv
        have HVr : Hid (Rc wr va (d.map M.swapC).length (d.map M.swapC)) := hr
        clear e1 hv hr
        go_wp2
        go_ret2
        rw [HV.out]
        exact ⟨va, _, vc, rfl, HVr.out, hl, hm2, hb1.trans (hbel.mono hs1)⟩
  · have e1 : M.backE d = 1 := by unfold M.backE; rw [if_neg hf]
    have e2 : M.backV d = [] := by unfold M.backV; rw [if_neg hf]
    rw [e1, e2]
    have hf2 : M.fine d = false := by simpa using hf
    rw [hf2] at K
    have KK : Hid (Calls Try.prog 53 #[.slice a n cap] w fun e w' => e = .returned (.bool false) ∧ Below w.heap.size w w') := K
    clear K h hf e1 e2 hf2
    go_enter Try.func26, Try.ntmps26
    go_wp2_with fail
    refine KK.out.mono ?_
    rintro e w1 ⟨rfl, hb1⟩
    go_wp2
    go_ret2
    exact HandsC.err 1 hb1
end Go.Proofs.Ytcgpgflnihjpiac
