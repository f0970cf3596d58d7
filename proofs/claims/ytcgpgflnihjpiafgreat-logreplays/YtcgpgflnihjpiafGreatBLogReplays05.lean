/- The reference's actFrom. -/
import Derived.Test.YtcgpgflnihjpiafGreatBLogReplays01
import Derived.Test.YtcgpgflnihjpiafGreatBLogReplays04
import Derived.Test.YtcgpgflnihjpiafGreatBLogReplays02
import Derived.Deep.AppendLies
import Derived.Lib.AppendStr
import Derived.Laws.IdiomStrings
import Derived.Lib.BufferRead
namespace Go.Proofs.YtcgpgflnihjpiafGreat
open Go.RowKit

theorem M.str_bat (l : M.By) : ∀ (n : Nat) (h : n < (M.str l).size), (((M.str l)[n]'h).toNat : Int) = ((M.bat l n : Nat) : Int) := by
  intro n h
  have h2 : n < l.length := by rw [← M.str_size]; exact h
  have e : (M.str l)[n]'h = l[n] := by
    show (M.str l).data[n] = l[n]
    simp [M.str]
  rw [e]
  unfold M.bat
  simp [List.getD, h2]
theorem step_chg {w : World} {ops : Array Oper} {o : Oper} {a : Act} {K : Act → World → Prop} {Q : Exit → Act → World → Prop} {E : Prop} (hgd : o.guard = none) (s x : Operand)
    (ho : o.op = .call { callee := .builtin .append, args := #[s, x], argTypes := #[26, 26] })
    (base : Nat) (v : Value) (l : List M.Chg) (hs : a.eval s = v) (hown : OwnC w base v l)
    (b : Nat) (x0 y0 z0 : Int) (hx : a.eval x = .slice (some ⟨b, 0, none⟩) 1 1)
    (hc : w.cell? ⟨b, 0, none⟩ = some (.int .i64 x0) ∧ w.cell? ⟨b, 1, none⟩ = some (.int .i64 y0) ∧ w.cell? ⟨b, 2, none⟩ = some (.int .i64 z0))
    (hbig : l.length + 1 ≤ 1000000) (hbase : base ≤ w.heap.size)
    (h : ∀ v' w', OwnC w' base v' (l ++ [(x0, y0, z0)]) → Below base w w' → K (a.put o.dst v') w') : if Region.wanted o (yielded ops a.tmps) = true then Oper.wp Tryz.prog o a w K Q else E := by
  obtain ⟨i0, hi, hz0, hz1, hz2⟩ := info_parts infoChange
  have hnews : ∀ j u, (encC [(x0, y0, z0)])[j]? = some u → w.cell? ((⟨b, 0, none⟩ : Addr).add j) = some u := by
    intro j u hj
    have hjl : j < (encC [(x0, y0, z0)]).length := (List.getElem?_eq_some_iff.1 hj).1
    rw [encC_length] at hjl
    have hj3 : j < 3 := by simpa using hjl
    rw [Addr.add_lit]
    match j, hj3, hj with
    | 0, _, hj => simp [encC] at hj; rw [← hj]; exact hc.1
    | 1, _, hj => simp [encC] at hj; rw [← hj]; exact hc.2.1
    | 2, _, hj => simp [encC] at hj; rw [← hj]; exact hc.2.2
  refine step_append_any hgd s x 26 ho base 69 i0 (.agg #[.int .i64 0, .int .i64 0, .int .i64 0]) 3 24 Tryz.underlying26 hi hz0 hz1 hz2 rfl (by decide) v l.length (encC l) hs hown (some ⟨b, 0, none⟩) 1 1 (encC [(x0, y0, z0)]) hx (by rw [encC_length]; rfl) (fun ad e j u hj => by cases e; exact hnews j u hj) (fun e => by simp at e) (encC_one _)
    (by simp only [maxLen]; omega) (by omega) hbase ?_
  intro v' w' h1 h2
  refine h _ w' ?_ ((Below.refl _ _).grown h2 hbase fun k hk => (World.ownsRow.lt hown k hk).1)
  unfold OwnC
  rw [encC_append, List.length_append]
  exact h1
theorem chg_cells (W : World) (x y z : Int) : (W.alloc (.cells #[.int .i64 x, .int .i64 y, .int .i64 z] 69)).cell? ⟨W.heap.size, 0, none⟩ = some (.int .i64 x) ∧ (W.alloc (.cells #[.int .i64 x, .int .i64 y, .int .i64 z] 69)).cell? ⟨W.heap.size, 1, none⟩ = some (.int .i64 y) ∧ (W.alloc (.cells #[.int .i64 x, .int .i64 y, .int .i64 z] 69)).cell? ⟨W.heap.size, 2, none⟩ = some (.int .i64 z) := by
  refine ⟨?_, ?_, ?_⟩ <;> simp [go_sem]
/-- An act in a box, its changes a row of the own. -/
def ABox (X : World) (D : Nat) (B0 : Int) (so st : ByteArray) (cs : List M.Chg) (w : World) : Prop :=
  ∃ a m c, w.heap[D]? = some (.cells #[.int .i64 B0, .string so, .string st, .slice a m c] 28 (0, 0)) ∧ OwnC w (D + 1) (.slice a m c) cs ∧ Below D X w
theorem ABox.put {X w w1 : World} {D : Nat} {B0 : Int} {so st : ByteArray} {cs : List M.Chg} {a : Option Addr} {m c : Nat} {a' : Option Addr} {m' c' : Nat} (h1 : w.heap[D]? = some (.cells #[.int .i64 B0, .string so, .string st, .slice a m c] 28 (0, 0))) (hb : Below D X w) (hw : Below (D + 1) w w1) (ho : OwnC w1 (D + 1) (.slice a' m' c') cs) :
    ABox X D B0 so st cs (w1.setCell ⟨D, 3, none⟩ (.slice a' m' c')) ∧ w1.heap[D]? = some (.cells #[.int .i64 B0, .string so, .string st, .slice a m c] 28 (0, 0)) := by
  have k1 : w1.heap[D]? = some (.cells #[.int .i64 B0, .string so, .string st, .slice a m c] 28 (0, 0)) := (hw.block D (by omega)).trans h1
  refine ⟨⟨a', m', c', ?_, ?_, ?_⟩, k1⟩
  · rw [heap_setCell_same _ _ _ _ _ _ k1]; rfl
  · refine ownsRow_elsewhere ho (grownBy_set w1 ⟨D, 3, none⟩ _) fun r e cur he => ?_
    cases e
    rw [show w1.heap[D]? = _ from k1] at he
    simp at he
  · exact (hb.trans (hw.mono (by omega))).setCell (p := ⟨D, 3, none⟩) (Nat.le_refl _) _
def zAct : Value := .agg #[.int .i64 0, .string ⟨#[]⟩, .string ⟨#[]⟩, .slice none 0 0]
set_option maxRecDepth 100000 in
set_option maxHeartbeats 4000000 in
theorem afrom_any (l : M.By) (w : World) (hl : l.length ≤ 1000000) :
    Calls Tryz.prog 69 #[.string (M.str l)] w fun e w' => Below w.heap.size w w' ∧
      ((∃ x t v, M.rA l = some (x, t) ∧ e = .returned (.tuple #[v, .int .i64 ((l.length - t.length : Nat) : Int)]) ∧ isAct w.heap.size x v w') ∨
       (M.rA l = none ∧ e = .returned (.tuple #[zAct, .int .i64 0]))) := by
  obtain ⟨s, hs⟩ : ∃ s, s = M.str l := ⟨_, rfl⟩
  have hbt : ∀ (n : Nat) (h : n < s.size), ((s[n]'h).toNat : Int) = ((M.bat l n : Nat) : Int) := by rw [hs]; exact M.str_bat l
  have hsz : s.size = l.length := by rw [hs, M.str_size]
  obtain ⟨L, hL⟩ : ∃ L, L = l.length := ⟨_, rfl⟩
  rw [← hL] at hsz hl
  obtain ⟨R, hR⟩ : ∃ R, R = w.heap.size := ⟨_, rfl⟩
  obtain ⟨W, hW⟩ : ∃ W, W = w.alloc (.cells #[.int .i64 0, .string ⟨#[]⟩, .string ⟨#[]⟩, .slice none 0 0] 28) := ⟨_, rfl⟩
  have hb : Below w.heap.size w W := by rw [hW]; exact (Below.refl _ _).alloc (Nat.le_refl _) _
  have q0 : W.heap[R]? = some (.cells #[.int .i64 0, .string ⟨#[]⟩, .string ⟨#[]⟩, .slice none 0 0] 28 (0, 0)) := by rw [hW, hR]; exact heap_alloc_new _ _
  have HX : Aside (W.cell? ⟨R, 0, none⟩ = some (.int .i64 0) ∧ W.cell? ⟨R, 1, none⟩ = some (.string ⟨#[]⟩) ∧ W.cell? ⟨R, 2, none⟩ = some (.string ⟨#[]⟩) ∧ W.cell? ⟨R, 3, none⟩ = some (.slice none 0 0)) := ⟨by rw [cell_of_row _ _ _ _ _ _ q0]; rfl, by rw [cell_of_row _ _ _ _ _ _ q0]; rfl, by rw [cell_of_row _ _ _ _ _ _ q0]; rfl, by rw [cell_of_row _ _ _ _ _ _ q0]; rfl⟩
  have HQ0 : Hid (W.heap[R]? = some (.cells #[.int .i64 0, .string ⟨#[]⟩, .string ⟨#[]⟩, .slice none 0 0] 28 (0, 0))) := q0
  have HW : Hid (W = w.alloc (.cells #[.int .i64 0, .string ⟨#[]⟩, .string ⟨#[]⟩, .slice none 0 0] 28)) := hW
  have HR : Aside (R = w.heap.size) := hR
  have HLl : Aside (L = l.length) := hL
  have HS : Hid (s = M.str l) := hs
  have HB : Hid (Below w.heap.size w W) := hb
  have hB1 := M.bat_lt l 1
  rw [← hs]
  by_cases h4 : L < 4
  case pos =>
    have hb4 : decide ((L : Int) < 4) = true := by simp; omega
    have HN : Hid (M.rA l = none) := M.rA_1 l (by omega)
    clear hL hs h4 hW hR q0 hB1
    go_enter Tryz.func69, Tryz.ntmps69
    go_wp2
    rw [← HW.out, ← HR.out]
    obtain ⟨y0, y1, y2, y3⟩ := HX.out
    refine bodyPost_ret (v := .tuple #[zAct, .int .i64 0]) (by simp [results, Tryz.results69, go_sem, y0, y1, y2, y3, zAct]) rfl ?_
    exact ⟨by rw [HR.out]; exact HB.out, Or.inr ⟨HN.out, rfl⟩⟩
  have hb4 : decide ((L : Int) < 4) = false := by simp; omega
  have hL4 : 4 ≤ L := by omega
  obtain ⟨B1, hB1e⟩ : ∃ B1, B1 = M.bat l 1 := ⟨_, rfl⟩
  rw [← hB1e] at hB1
  obtain ⟨Q1, hQ1⟩ : ∃ Q1, Q1 = M.p1 l := ⟨_, rfl⟩
  have hQ1b : Q1 = 2 + B1 := by rw [hQ1, hB1e]; rfl
  obtain ⟨B2, hB2e⟩ : ∃ B2, B2 = M.bat l Q1 := ⟨_, rfl⟩
  have hB2 := M.bat_lt l Q1
  rw [← hB2e] at hB2
  obtain ⟨Q2, hQ2⟩ : ∃ Q2, Q2 = M.p2 l := ⟨_, rfl⟩
  have hQ2b : Q2 = Q1 + 1 + B2 := by rw [hQ2, hB2e, hQ1]; rfl
  obtain ⟨B3, hB3e⟩ : ∃ B3, B3 = M.bat l Q2 := ⟨_, rfl⟩
  have hB3 := M.bat_lt l Q2
  rw [← hB3e] at hB3
  obtain ⟨Q3, hQ3⟩ : ∃ Q3, Q3 = M.p3 l := ⟨_, rfl⟩
  have hQ3b : Q3 = Q2 + 1 + 5 * B3 := by rw [hQ3, hB3e, hQ2]; rfl
  have hi1 : ∀ (h : 1 < s.size), ((s[1]'h).toNat : Int) = (B1 : Int) := fun h => by rw [hbt 1 h, hB1e]
  have hi2 : ∀ (h : Q1 < s.size), ((s[Q1]'h).toNat : Int) = (B2 : Int) := fun h => by rw [hbt Q1 h, hB2e]
  have hi3 : ∀ (h : Q2 < s.size), ((s[Q2]'h).toNat : Int) = (B3 : Int) := fun h => by rw [hbt Q2 h, hB3e]
  have hq1 : (2 : Int) + (B1 : Int) = (Q1 : Int) := by omega
  have hq2 : (Q1 : Int) + 1 + (B2 : Int) = (Q2 : Int) := by omega
  have hq3 : (Q2 : Int) + 1 + 5 * (B3 : Int) = (Q3 : Int) := by omega
  have hQ1m : Q1 ≤ 257 := by omega
  have hQ2m : Q2 ≤ 600 := by omega
  have hQ3m : Q3 ≤ 2000 := by omega
  have HBt : Hid (∀ (n : Nat) (h : n < s.size), ((s[n]'h).toNat : Int) = ((M.bat l n : Nat) : Int)) := hbt
  have HQ1 : Hid (Q1 = M.p1 l ∧ Q1 = 2 + B1 ∧ B1 = M.bat l 1) := ⟨hQ1, hQ1b, hB1e⟩
  have HQ2 : Hid (Q2 = M.p2 l ∧ Q2 = Q1 + 1 + B2 ∧ B2 = M.bat l Q1) := ⟨hQ2, hQ2b, hB2e⟩
  have HQ3 : Hid (Q3 = M.p3 l ∧ Q3 = Q2 + 1 + 5 * B3 ∧ B3 = M.bat l Q2) := ⟨hQ3, hQ3b, hB3e⟩
  clear h4 hbt hL hs hW hR q0 hB1e hB2e hB3e
  by_cases c1 : L ≤ Q1
  case pos =>
    have d1 : decide ((L : Int) ≤ (Q1 : Int)) = true := by simp; omega
    have d1n : decide (L ≤ Q1) = true := by simp; omega
    have HN : Hid (M.rA l = none) := M.rA_2 l (by rw [← HLl.out]; exact hL4) (by rw [← hQ1, ← HLl.out]; exact c1)
    clear c1 hQ1 hQ2 hQ3 hQ1b hQ2b hQ3b hq2 hq3 hi2 hi3
    go_enter Tryz.func69, Tryz.ntmps69
    go_wp2
    rw [← HW.out, ← HR.out]
    obtain ⟨y0, y1, y2, y3⟩ := HX.out
    refine bodyPost_ret (v := .tuple #[zAct, .int .i64 0]) (by simp [results, Tryz.results69, go_sem, y0, y1, y2, y3, zAct]) rfl ?_
    exact ⟨by rw [HR.out]; exact HB.out, Or.inr ⟨HN.out, rfl⟩⟩
  have d1 : decide ((L : Int) ≤ (Q1 : Int)) = false := by simp; omega
  have d1n : decide (L ≤ Q1) = false := by simp; omega
  have e1 : (Q1 : Int) < (L : Int) := by omega
  by_cases c2 : L ≤ Q2
  case pos =>
    have d2 : decide ((L : Int) ≤ (Q2 : Int)) = true := by simp; omega
    have d2n : decide (L ≤ Q2) = true := by simp; omega
    have HN : Hid (M.rA l = none) := M.rA_3 l (by rw [← HLl.out]; exact hL4) (by rw [← hQ1, ← HLl.out]; omega) (by rw [← hQ2, ← HLl.out]; exact c2)
    clear c1 c2 hQ1 hQ2 hQ3 hQ1b hQ2b hQ3b hq3 hi3
    go_enter Tryz.func69, Tryz.ntmps69
    go_wp2
    rw [← HW.out, ← HR.out]
    obtain ⟨y0, y1, y2, y3⟩ := HX.out
    refine bodyPost_ret (v := .tuple #[zAct, .int .i64 0]) (by simp [results, Tryz.results69, go_sem, y0, y1, y2, y3, zAct]) rfl ?_
    exact ⟨by rw [HR.out]; exact HB.out, Or.inr ⟨HN.out, rfl⟩⟩
  have d2 : decide ((L : Int) ≤ (Q2 : Int)) = false := by simp; omega
  have d2n : decide (L ≤ Q2) = false := by simp; omega
  have e2 : (Q2 : Int) < (L : Int) := by omega
  by_cases c3 : L < Q3
  case pos =>
    have d3 : decide ((L : Int) < (Q3 : Int)) = true := by simp; omega
    have d3n : decide (L < Q3) = true := by simp; omega
    have HN : Hid (M.rA l = none) := M.rA_4 l (by rw [← HLl.out]; exact hL4) (by rw [← hQ1, ← HLl.out]; omega) (by rw [← hQ2, ← HLl.out]; omega) (by rw [← hQ3, ← HLl.out]; exact c3)
    clear c1 c2 c3 hQ1 hQ2 hQ3 hQ1b hQ2b hQ3b
    go_enter Tryz.func69, Tryz.ntmps69
    go_wp2
    rw [← HW.out, ← HR.out]
    obtain ⟨y0, y1, y2, y3⟩ := HX.out
    refine bodyPost_ret (v := .tuple #[zAct, .int .i64 0]) (by simp [results, Tryz.results69, go_sem, y0, y1, y2, y3, zAct]) rfl ?_
    exact ⟨by rw [HR.out]; exact HB.out, Or.inr ⟨HN.out, rfl⟩⟩
  have d3 : decide ((L : Int) < (Q3 : Int)) = false := by simp; omega
  have d3n : decide (L < Q3) = false := by simp; omega
  have hrA := M.rA_5 l (by rw [← HLl.out]; exact hL4) (by rw [← hQ1, ← HLl.out]; omega) (by rw [← hQ2, ← HLl.out]; omega) (by rw [← hQ3, ← HLl.out]; omega)
  rw [← hQ1, ← hQ2, ← hQ3, ← HQ1.out.2.2, ← HQ2.out.2.2, ← HQ3.out.2.2] at hrA
  obtain ⟨B0, hB0e⟩ : ∃ B0, B0 = M.bat l 0 := ⟨_, rfl⟩
  have hB0 := M.bat_lt l 0
  rw [← hB0e] at hB0 hrA
  have hi0 : ∀ (h : 0 < s.size), ((s[0]'h).toNat : Int) = (B0 : Int) := fun h => by rw [HBt.out 0 h, hB0e]
  obtain ⟨so, hso⟩ : ∃ so, so = s.extract 2 Q1 := ⟨_, rfl⟩
  obtain ⟨st, hst⟩ : ∃ st, st = s.extract (Q1 + 1) Q2 := ⟨_, rfl⟩
  have hso2 : so = M.str ((l.drop 2).take B1) := by rw [hso, HS.out, hQ1b, M.str_mid]
  have hst2 : st = M.str ((l.drop (Q1 + 1)).take B2) := by rw [hst, HS.out, hQ2b, M.str_mid]
  have HRA : Hid (M.rA l = some (⟨(B0 : Int), (l.drop 2).take B1, (l.drop (Q1 + 1)).take B2, M.chgsAt l (Q2 + 1) B3⟩, l.drop Q3)) := hrA
  have HSo : Hid (so = M.str ((l.drop 2).take B1)) := hso2
  have HSt : Hid (st = M.str ((l.drop (Q1 + 1)).take B2)) := hst2
  have eso : s.extract 2 Q1 = so := hso.symm
  have est : s.extract (Q1 + 1) Q2 = st := hst.symm
  have hQ12 : Q1 + 1 ≤ Q2 := by omega
  have hQ12i : (Q1 : Int) + 1 ≤ (Q2 : Int) := by omega
  have hQ3L : Q3 ≤ L := by omega
  obtain ⟨D, hD⟩ : ∃ D, D = W.heap.size := ⟨_, rfl⟩
  obtain ⟨X, hX⟩ : ∃ X, X = (W.alloc (.cells #[.int .i64 (B0 : Int), .string so, .string st, .slice none 0 0] 28)).drew := ⟨_, rfl⟩
  have bX : Below W.heap.size W X := by rw [hX]; exact ((Below.refl _ _).alloc (Nat.le_refl _) _).drew
  have hX0 : X.heap[D]? = some (.cells #[.int .i64 (B0 : Int), .string so, .string st, .slice none 0 0] 28 (0, 0)) := by rw [hX, hD]; exact heap_alloc_new _ _
  have hRD : R < D := by rw [hD]; exact (Array.getElem?_eq_some_iff.1 HQ0.out).1
  have hXs : X.heap.size = D + 1 := by rw [hX, hD]; simp
  have HX0 : Hid (X.heap[D]? = some (.cells #[.int .i64 (B0 : Int), .string so, .string st, .slice none 0 0] 28 (0, 0))) := hX0
  have HXs : Aside (X.heap.size = D + 1) := hXs
  have HBX : Hid (Below W.heap.size W X) := bX
  have HXX : Hid (X = (W.alloc (.cells #[.int .i64 (B0 : Int), .string so, .string st, .slice none 0 0] 28)).drew) := hX
  have HD : Aside (D = W.heap.size) := hD
  have HRD : Aside (R < D) := hRD
  clear c1 c2 c3 hQ1 hQ2 hQ3 hQ1b hQ2b hQ3b hrA hB0e hso hst hso2 hst2 hD hX bX hX0 hXs hRD
  go_enter Tryz.func69, Tryz.ntmps69
  go_wp2_with fail
  rw [← HW.out, ← HR.out]
  go_region
  rw [← HXX.out, ← HD.out]
  go_wp2_with fail
  go_loopg [8] B3 (fun g i wr => ∃ k q : Nat, k + g = B3 ∧ Aside (q = Q2 + 1 + 5 * k) ∧ i = .int .i64 q ∧ Aside (ABox X D (B0 : Int) so st (M.chgsAt l (Q2 + 1) k) wr))
  case atStart => exact ⟨0, Q2 + 1, by omega, rfl, by go_num, ⟨none, 0, 0, HX0.out, OwnC.nil _ _, Below.refl _ _⟩⟩
  case round =>
    obtain ⟨k, q, hk, HQk, rfl, HAB⟩ := hrel
    obtain ⟨va, vn, vc, blk, ob, hbX⟩ := HAB.out
    have hQq := HQk.out
    have hQ3e := HQ3.out.2.1
    by_cases hkn : k < B3
    · obtain ⟨e0, he0⟩ : ∃ e, e = M.bat l q := ⟨_, rfl⟩
      obtain ⟨q1, hq1e⟩ : ∃ q1, q1 = q + 1 := ⟨_, rfl⟩
      obtain ⟨q2, hq2e⟩ : ∃ q1, q1 = q + 2 := ⟨_, rfl⟩
      obtain ⟨q3, hq3e⟩ : ∃ q1, q1 = q + 3 := ⟨_, rfl⟩
      obtain ⟨q4, hq4e⟩ : ∃ q1, q1 = q + 4 := ⟨_, rfl⟩
      obtain ⟨q5, hq5e⟩ : ∃ q1, q1 = q + 5 := ⟨_, rfl⟩
      obtain ⟨e1', he1⟩ : ∃ e, e = M.bat l q1 := ⟨_, rfl⟩
      obtain ⟨e2', he2⟩ : ∃ e, e = M.bat l q2 := ⟨_, rfl⟩
      obtain ⟨e3, he3⟩ : ∃ e, e = M.bat l q3 := ⟨_, rfl⟩
      obtain ⟨e4, he4⟩ : ∃ e, e = M.bat l q4 := ⟨_, rfl⟩
      have t0 : e0 < 256 := by rw [he0]; exact M.bat_lt _ _
      have t1 : e1' < 256 := by rw [he1]; exact M.bat_lt _ _
      have t2 : e2' < 256 := by rw [he2]; exact M.bat_lt _ _
      have t3 : e3 < 256 := by rw [he3]; exact M.bat_lt _ _
      have t4 : e4 < 256 := by rw [he4]; exact M.bat_lt _ _
      have g0 : ∀ (h : q < s.size), ((s[q]'h).toNat : Int) = (e0 : Int) := fun h => by rw [HBt.out q h, he0]
      have g1 : ∀ (h : q1 < s.size), ((s[q1]'h).toNat : Int) = (e1' : Int) := fun h => by rw [HBt.out q1 h, he1]
      have g2 : ∀ (h : q2 < s.size), ((s[q2]'h).toNat : Int) = (e2' : Int) := fun h => by rw [HBt.out q2 h, he2]
      have g3 : ∀ (h : q3 < s.size), ((s[q3]'h).toNat : Int) = (e3 : Int) := fun h => by rw [HBt.out q3 h, he3]
      have g4 : ∀ (h : q4 < s.size), ((s[q4]'h).toNat : Int) = (e4 : Int) := fun h => by rw [HBt.out q4 h, he4]
      have x1 : (q : Int) + 1 = (q1 : Int) := by omega
      have x2 : (q : Int) + 2 = (q2 : Int) := by omega
      have x3 : (q : Int) + 3 = (q3 : Int) := by omega
      have x4 : (q : Int) + 4 = (q4 : Int) := by omega
      have x5 : (q : Int) + 5 = (q5 : Int) := by omega
      have l0 : (q : Int) < (L : Int) := by omega
      have l1 : (q1 : Int) < (L : Int) := by omega
      have l2 : (q2 : Int) < (L : Int) := by omega
      have l3 : (q3 : Int) < (L : Int) := by omega
      have l4 : (q4 : Int) < (L : Int) := by omega
      have hqQ : decide ((q : Int) < (Q3 : Int)) = true := by simp; omega
      have hqQn : decide (q < Q3) = true := by simp; omega
      have hqm : q ≤ 2000 := by omega
      have wr0 : IntKind.i64.wrap ((e0 : Int)) = (e0 : Int) := by rw [IntKind.wrap_i64]; omega
      have wr1 : IntKind.i64.wrap ((e1' : Int)) = (e1' : Int) := by rw [IntKind.wrap_i64]; omega
      have wr2 : IntKind.i64.wrap ((e2' : Int)) = (e2' : Int) := by rw [IntKind.wrap_i64]; omega
      have wr3 : IntKind.i64.wrap ((e3 : Int)) = (e3 : Int) := by rw [IntKind.wrap_i64]; omega
      have wr4 : IntKind.i64.wrap ((e4 : Int)) = (e4 : Int) := by rw [IntKind.wrap_i64]; omega
      have wr5 : IntKind.i64.wrap ((q1 : Int)) = (q1 : Int) := by rw [IntKind.wrap_i64]; omega
      have wr6 : IntKind.i64.wrap ((q2 : Int)) = (q2 : Int) := by rw [IntKind.wrap_i64]; omega
      have wr7 : IntKind.i64.wrap ((q3 : Int)) = (q3 : Int) := by rw [IntKind.wrap_i64]; omega
      have wr8 : IntKind.i64.wrap ((q4 : Int)) = (q4 : Int) := by rw [IntKind.wrap_i64]; omega
      have wr9 : IntKind.i64.wrap (256 * (e1' : Int)) = 256 * (e1' : Int) := by rw [IntKind.wrap_i64]; omega
      have wr10 : IntKind.i64.wrap (256 * (e1' : Int) + (e2' : Int)) = 256 * (e1' : Int) + (e2' : Int) := by rw [IntKind.wrap_i64]; omega
      have wr11 : IntKind.i64.wrap (256 * (e1' : Int) + (e2' : Int) - 1) = 256 * (e1' : Int) + (e2' : Int) - 1 := by rw [IntKind.wrap_i64]; omega
      have wr12 : IntKind.i64.wrap (256 * (e3 : Int)) = 256 * (e3 : Int) := by rw [IntKind.wrap_i64]; omega
      have wr13 : IntKind.i64.wrap (256 * (e3 : Int) + (e4 : Int)) = 256 * (e3 : Int) + (e4 : Int) := by rw [IntKind.wrap_i64]; omega
      have wr14 : IntKind.i64.wrap (256 * (e3 : Int) + (e4 : Int) - 1) = 256 * (e3 : Int) + (e4 : Int) - 1 := by rw [IntKind.wrap_i64]; omega
      have HQ5 : Aside (q5 = Q2 + 1 + 5 * (k + 1)) := by unfold Aside; omega
      have HCh : Hid (M.chgsAt l (Q2 + 1) (k + 1) = M.chgsAt l (Q2 + 1) k ++ [((e0 : Int), 256 * (e1' : Int) + (e2' : Int) - 1, 256 * (e3 : Int) + (e4 : Int) - 1)]) := by
        unfold Hid
        rw [M.chgsAt_more, ← hQq]
        unfold M.chgAt
        rw [← hq1e, ← hq2e, ← hq3e, ← hq4e, ← he0, ← he1, ← he2, ← he3, ← he4]
      have hDl : D < wr.heap.size := (Array.getElem?_eq_some_iff.1 blk).1
      have d3 : wr.cell? ⟨D, 3, none⟩ = some (.slice va vn vc) := by rw [cell_of_row _ _ _ _ _ _ blk]; rfl
      have HSV : Hid (∀ V, Below wr.heap.size wr V → V.cell? ⟨D, 3, none⟩ = some (.slice va vn vc)) := fun V hV => (hV.cell (p := ⟨D, 3, none⟩) hDl).trans d3
      have HBd : Hid (Below wr.heap.size wr wr.drew) := (Below.refl _ _).drew
      have pb9 : Hid (Below wr.heap.size wr (wr.alloc (.cells #[.int .i64 (e0 : Int), .int .i64 (256 * (e1' : Int) + (e2' : Int) - 1), .int .i64 (256 * (e3 : Int) + (e4 : Int) - 1)] 69)).drew) := ((Below.refl _ _).alloc (Nat.le_refl _) _).drew
      have HBl : Hid ((wr.alloc (.cells #[.int .i64 (e0 : Int), .int .i64 (256 * (e1' : Int) + (e2' : Int) - 1), .int .i64 (256 * (e3 : Int) + (e4 : Int) - 1)] 69)).drew.heap[D]? = some (.cells #[.int .i64 (B0 : Int), .string so, .string st, .slice va vn vc] 28 (0, 0))) := (pb9.out.block D hDl).trans blk
      have HOb : Hid (OwnC (wr.alloc (.cells #[.int .i64 (e0 : Int), .int .i64 (256 * (e1' : Int) + (e2' : Int) - 1), .int .i64 (256 * (e3 : Int) + (e4 : Int) - 1)] 69)).drew (D + 1) (.slice va vn vc) (M.chgsAt l (Q2 + 1) k)) := ownsRow_later ob pb9.out
      have HBd2 : Hid (Below D X (wr.alloc (.cells #[.int .i64 (e0 : Int), .int .i64 (256 * (e1' : Int) + (e2' : Int) - 1), .int .i64 (256 * (e3 : Int) + (e4 : Int) - 1)] 69)).drew) := hbX.trans (pb9.out.mono (by omega))
      clear blk ob hbX hQq hQ3e he0 he1 he2 he3 he4 hq1e hq2e hq3e hq4e hq5e
      go_wp2_with fail
      refine wp_region_till 36 (fun V => V.cell? ⟨D, 3, none⟩ = some (.slice va vn vc)) (by kernel_rfl) (HSV.out _ HBd.out) (fun hHeld => ?_)
      refine till_go 0 (v := .pointer (some ⟨D, 3, none⟩)) rfl (by decide) (by kernel_rfl) (by kernel_rfl) (by kernel_rfl) (fun _ _ _ h => h) (Or.inl ⟨by rfl, fun V _ => (by go_simp)⟩) hHeld ?_
      try simp only [Act.put]
      refine till_take 1 (v := .slice va vn vc) rfl (by decide) (by kernel_rfl) (by kernel_rfl) (by kernel_rfl) (by kernel_rfl) (by kernel_rfl) (fun _ _ _ h => h) (Or.inl ⟨by rfl, fun V hV => (by have v0 := hV; go_simp)⟩) hHeld ?_
      try simp only [Act.put]
      refine till_go 2 (v := .string s) rfl (by decide) (by kernel_rfl) (by kernel_rfl) (by kernel_rfl) (fun _ _ _ h => h) (Or.inl ⟨by rfl, fun V _ => (by go_simp)⟩) hHeld ?_
      try simp only [Act.put]
      refine till_go 3 (v := .int .i64 (q : Int)) rfl (by decide) (by kernel_rfl) (by kernel_rfl) (by kernel_rfl) (fun _ _ _ h => h) (Or.inl ⟨by rfl, fun V _ => (by go_simp)⟩) hHeld ?_
      try simp only [Act.put]
      refine till_go 4 (v := .int .u8 (e0 : Int)) rfl (by decide) (by kernel_rfl) (by kernel_rfl) (by kernel_rfl) (fun _ _ _ h => h) (Or.inl ⟨by rfl, fun V _ => (by go_simp)⟩) hHeld ?_
      try simp only [Act.put]
      refine till_go 5 (v := .int .i64 (e0 : Int)) rfl (by decide) (by kernel_rfl) (by kernel_rfl) (by kernel_rfl) (fun _ _ _ h => h) (Or.inl ⟨by rfl, fun V _ => (by go_simp)⟩) hHeld ?_
      try simp only [Act.put]
      refine till_go 6 (v := .string s) rfl (by decide) (by kernel_rfl) (by kernel_rfl) (by kernel_rfl) (fun _ _ _ h => h) (Or.inl ⟨by rfl, fun V _ => (by go_simp)⟩) hHeld ?_
      try simp only [Act.put]
      refine till_go 7 (v := .int .i64 (q : Int)) rfl (by decide) (by kernel_rfl) (by kernel_rfl) (by kernel_rfl) (fun _ _ _ h => h) (Or.inl ⟨by rfl, fun V _ => (by go_simp)⟩) hHeld ?_
      try simp only [Act.put]
      refine till_go 8 (v := .int .i64 (q1 : Int)) rfl (by decide) (by kernel_rfl) (by kernel_rfl) (by kernel_rfl) (fun _ _ _ h => h) (Or.inl ⟨by rfl, fun V _ => (by go_simp)⟩) hHeld ?_
      try simp only [Act.put]
      refine till_go 9 (v := .int .u8 (e1' : Int)) rfl (by decide) (by kernel_rfl) (by kernel_rfl) (by kernel_rfl) (fun _ _ _ h => h) (Or.inl ⟨by rfl, fun V _ => (by go_simp)⟩) hHeld ?_
      try simp only [Act.put]
      refine till_go 10 (v := .int .i64 (e1' : Int)) rfl (by decide) (by kernel_rfl) (by kernel_rfl) (by kernel_rfl) (fun _ _ _ h => h) (Or.inl ⟨by rfl, fun V _ => (by go_simp)⟩) hHeld ?_
      try simp only [Act.put]
      refine till_go 11 (v := .int .i64 (256 * (e1' : Int))) rfl (by decide) (by kernel_rfl) (by kernel_rfl) (by kernel_rfl) (fun _ _ _ h => h) (Or.inl ⟨by rfl, fun V _ => (by go_simp)⟩) hHeld ?_
      try simp only [Act.put]
      refine till_go 12 (v := .string s) rfl (by decide) (by kernel_rfl) (by kernel_rfl) (by kernel_rfl) (fun _ _ _ h => h) (Or.inl ⟨by rfl, fun V _ => (by go_simp)⟩) hHeld ?_
      try simp only [Act.put]
      refine till_go 13 (v := .int .i64 (q : Int)) rfl (by decide) (by kernel_rfl) (by kernel_rfl) (by kernel_rfl) (fun _ _ _ h => h) (Or.inl ⟨by rfl, fun V _ => (by go_simp)⟩) hHeld ?_
      try simp only [Act.put]
      refine till_go 14 (v := .int .i64 (q2 : Int)) rfl (by decide) (by kernel_rfl) (by kernel_rfl) (by kernel_rfl) (fun _ _ _ h => h) (Or.inl ⟨by rfl, fun V _ => (by go_simp)⟩) hHeld ?_
      try simp only [Act.put]
      refine till_go 15 (v := .int .u8 (e2' : Int)) rfl (by decide) (by kernel_rfl) (by kernel_rfl) (by kernel_rfl) (fun _ _ _ h => h) (Or.inl ⟨by rfl, fun V _ => (by go_simp)⟩) hHeld ?_
      try simp only [Act.put]
      refine till_go 16 (v := .int .i64 (e2' : Int)) rfl (by decide) (by kernel_rfl) (by kernel_rfl) (by kernel_rfl) (fun _ _ _ h => h) (Or.inl ⟨by rfl, fun V _ => (by go_simp)⟩) hHeld ?_
      try simp only [Act.put]
      refine till_go 17 (v := .int .i64 (256 * (e1' : Int) + (e2' : Int))) rfl (by decide) (by kernel_rfl) (by kernel_rfl) (by kernel_rfl) (fun _ _ _ h => h) (Or.inl ⟨by rfl, fun V _ => (by go_simp)⟩) hHeld ?_
      try simp only [Act.put]
      refine till_go 18 (v := .int .i64 (256 * (e1' : Int) + (e2' : Int) - 1)) rfl (by decide) (by kernel_rfl) (by kernel_rfl) (by kernel_rfl) (fun _ _ _ h => h) (Or.inl ⟨by rfl, fun V _ => (by go_simp)⟩) hHeld ?_
      try simp only [Act.put]
      refine till_go 19 (v := .string s) rfl (by decide) (by kernel_rfl) (by kernel_rfl) (by kernel_rfl) (fun _ _ _ h => h) (Or.inl ⟨by rfl, fun V _ => (by go_simp)⟩) hHeld ?_
      try simp only [Act.put]
      refine till_go 20 (v := .int .i64 (q : Int)) rfl (by decide) (by kernel_rfl) (by kernel_rfl) (by kernel_rfl) (fun _ _ _ h => h) (Or.inl ⟨by rfl, fun V _ => (by go_simp)⟩) hHeld ?_
      try simp only [Act.put]
      refine till_go 21 (v := .int .i64 (q3 : Int)) rfl (by decide) (by kernel_rfl) (by kernel_rfl) (by kernel_rfl) (fun _ _ _ h => h) (Or.inl ⟨by rfl, fun V _ => (by go_simp)⟩) hHeld ?_
      try simp only [Act.put]
      refine till_go 22 (v := .int .u8 (e3 : Int)) rfl (by decide) (by kernel_rfl) (by kernel_rfl) (by kernel_rfl) (fun _ _ _ h => h) (Or.inl ⟨by rfl, fun V _ => (by go_simp)⟩) hHeld ?_
      try simp only [Act.put]
      refine till_go 23 (v := .int .i64 (e3 : Int)) rfl (by decide) (by kernel_rfl) (by kernel_rfl) (by kernel_rfl) (fun _ _ _ h => h) (Or.inl ⟨by rfl, fun V _ => (by go_simp)⟩) hHeld ?_
      try simp only [Act.put]
      refine till_go 24 (v := .int .i64 (256 * (e3 : Int))) rfl (by decide) (by kernel_rfl) (by kernel_rfl) (by kernel_rfl) (fun _ _ _ h => h) (Or.inl ⟨by rfl, fun V _ => (by go_simp)⟩) hHeld ?_
      try simp only [Act.put]
      refine till_go 25 (v := .string s) rfl (by decide) (by kernel_rfl) (by kernel_rfl) (by kernel_rfl) (fun _ _ _ h => h) (Or.inl ⟨by rfl, fun V _ => (by go_simp)⟩) hHeld ?_
      try simp only [Act.put]
      refine till_go 26 (v := .int .i64 (q : Int)) rfl (by decide) (by kernel_rfl) (by kernel_rfl) (by kernel_rfl) (fun _ _ _ h => h) (Or.inl ⟨by rfl, fun V _ => (by go_simp)⟩) hHeld ?_
      try simp only [Act.put]
      refine till_go 27 (v := .int .i64 (q4 : Int)) rfl (by decide) (by kernel_rfl) (by kernel_rfl) (by kernel_rfl) (fun _ _ _ h => h) (Or.inl ⟨by rfl, fun V _ => (by go_simp)⟩) hHeld ?_
      try simp only [Act.put]
      refine till_go 28 (v := .int .u8 (e4 : Int)) rfl (by decide) (by kernel_rfl) (by kernel_rfl) (by kernel_rfl) (fun _ _ _ h => h) (Or.inl ⟨by rfl, fun V _ => (by go_simp)⟩) hHeld ?_
      try simp only [Act.put]
      refine till_go 29 (v := .int .i64 (e4 : Int)) rfl (by decide) (by kernel_rfl) (by kernel_rfl) (by kernel_rfl) (fun _ _ _ h => h) (Or.inl ⟨by rfl, fun V _ => (by go_simp)⟩) hHeld ?_
      try simp only [Act.put]
      refine till_go 30 (v := .int .i64 (256 * (e3 : Int) + (e4 : Int))) rfl (by decide) (by kernel_rfl) (by kernel_rfl) (by kernel_rfl) (fun _ _ _ h => h) (Or.inl ⟨by rfl, fun V _ => (by go_simp)⟩) hHeld ?_
      try simp only [Act.put]
      refine till_go 31 (v := .int .i64 (256 * (e3 : Int) + (e4 : Int) - 1)) rfl (by decide) (by kernel_rfl) (by kernel_rfl) (by kernel_rfl) (fun _ _ _ h => h) (Or.inl ⟨by rfl, fun V _ => (by go_simp)⟩) hHeld ?_
      try simp only [Act.put]
      refine till_go 32 (v := .agg #[.int .i64 (e0 : Int), .int .i64 (256 * (e1' : Int) + (e2' : Int) - 1), .int .i64 (256 * (e3 : Int) + (e4 : Int) - 1)]) rfl (by decide) (by kernel_rfl) (by kernel_rfl) (by kernel_rfl) (fun _ _ _ h => h) (Or.inl ⟨by rfl, fun V _ => (by go_simp)⟩) hHeld ?_
      try simp only [Act.put]
      refine till_step 33 rfl (by decide) (by kernel_rfl) (fun K hK => ?_)
      go_simp
      refine hK.out _ _ (HSV.out _ pb9.out) (fun hHeld => ?_)
      clear hK K
      refine till_step 34 rfl (by decide) (by kernel_rfl) (fun K hK => ?_)
      refine step_chg rfl _ _ rfl (D + 1) _ (M.chgsAt l (Q2 + 1) k) rfl HOb.out wr.heap.size (e0 : Int) (256 * (e1' : Int) + (e2' : Int) - 1) (256 * (e3 : Int) + (e4 : Int) - 1) rfl (by simp [go_sem]) (by rw [M.chgsAt_len]; omega) (by simp; omega) ?_
      intro v8 w8 o8 g8
      obtain ⟨qa, qc, ev, _⟩ := OwnC.rc o8
      obtain ⟨qn, hqn⟩ : ∃ qn, qn = (M.chgsAt l (Q2 + 1) k ++ [((e0 : Int), 256 * (e1' : Int) + (e2' : Int) - 1, 256 * (e3 : Int) + (e4 : Int) - 1)]).length := ⟨_, rfl⟩
      rw [← hqn] at ev
      subst ev
      rw [← HCh.out] at o8
      obtain ⟨P1, P2⟩ := ABox.put HBl.out HBd2.out g8 o8
      have k8 : w8.cell? ⟨D, 3, none⟩ = some (.slice va vn vc) := by rw [cell_of_row _ _ _ _ _ _ P2]; rfl
      have f8 : w8.frozen? ⟨D, 3, none⟩ = false := frozen_of_row _ _ _ _ _ P2
      have HP1 : Aside (ABox X D (B0 : Int) so st (M.chgsAt l (Q2 + 1) (k + 1)) (w8.setCell ⟨D, 3, none⟩ (.slice qa qn qc))) := P1
      refine hK.out _ _ k8 (fun hHeld => ?_)
      clear hK K P1 P2 o8 g8 hqn
      refine till_go 35 (v := .pointer (some ⟨D, 3, none⟩)) rfl (by decide) (by kernel_rfl) (by kernel_rfl) (by kernel_rfl) (fun _ _ _ h => h) (Or.inl ⟨by rfl, fun V _ => (by go_simp)⟩) hHeld ?_
      try simp only [Act.put]
      refine till_last rfl (by kernel_rfl) (by kernel_rfl) (fun K hK => ?_) _
      go_simp
      refine hK.out _ _ ?_
      clear hK K
      go_wp2
      go_roundg (gk - 1)
      case measure => omega
      case rel => exact ⟨k + 1, q5, by omega, HQ5, by go_num, HP1⟩
    · obtain rfl : k = B3 := by omega
      have hqe : q = Q3 := by omega
      subst hqe
      have hqQn : decide (q < q) = false := by simp
      have hDl : D < wr.heap.size := (Array.getElem?_eq_some_iff.1 blk).1
      have d0 : wr.cell? ⟨D, 0, none⟩ = some (.int .i64 (B0 : Int)) := by rw [cell_of_row _ _ _ _ _ _ blk]; rfl
      have d1 : wr.cell? ⟨D, 1, none⟩ = some (.string so) := by rw [cell_of_row _ _ _ _ _ _ blk]; rfl
      have d2 : wr.cell? ⟨D, 2, none⟩ = some (.string st) := by rw [cell_of_row _ _ _ _ _ _ blk]; rfl
      have d3 : wr.cell? ⟨D, 3, none⟩ = some (.slice va vn vc) := by rw [cell_of_row _ _ _ _ _ _ blk]; rfl
      have hbD : Below D W wr := by rw [HD.out]; rw [HD.out] at hbX; exact HBX.out.trans hbX
      have rW : wr.heap[R]? = some (.cells #[.int .i64 0, .string ⟨#[]⟩, .string ⟨#[]⟩, .slice none 0 0] 28 (0, 0)) := (hbD.block R HRD.out).trans HQ0.out
      have r0 : wr.cell? ⟨R, 0, none⟩ = some (.int .i64 0) := by rw [cell_of_row _ _ _ _ _ _ rW]; rfl
      have r1 : wr.cell? ⟨R, 1, none⟩ = some (.string ⟨#[]⟩) := by rw [cell_of_row _ _ _ _ _ _ rW]; rfl
      have r2 : wr.cell? ⟨R, 2, none⟩ = some (.string ⟨#[]⟩) := by rw [cell_of_row _ _ _ _ _ _ rW]; rfl
      have r3 : wr.cell? ⟨R, 3, none⟩ = some (.slice none 0 0) := by rw [cell_of_row _ _ _ _ _ _ rW]; rfl
      have f0 : wr.frozen? ⟨R, 0, none⟩ = false := frozen_of_row _ _ _ _ _ rW
      have f1 : wr.frozen? ⟨R, 1, none⟩ = false := frozen_of_row _ _ _ _ _ rW
      have f2 : wr.frozen? ⟨R, 2, none⟩ = false := frozen_of_row _ _ _ _ _ rW
      have f3 : wr.frozen? ⟨R, 3, none⟩ = false := frozen_of_row _ _ _ _ _ rW
      obtain ⟨Y, hY⟩ : ∃ Y, Y = (((wr.setCell ⟨R, 0, none⟩ (.int .i64 (B0 : Int))).setCell ⟨R, 1, none⟩ (.string so)).setCell ⟨R, 2, none⟩ (.string st)).setCell ⟨R, 3, none⟩ (.slice va vn vc) := ⟨_, rfl⟩
      have qY : Y.heap[R]? = some (.cells #[.int .i64 (B0 : Int), .string so, .string st, .slice va vn vc] 28 (0, 0)) := by
        rw [hY, heap_setCell_same _ _ _ _ _ _ (heap_setCell_same _ _ _ _ _ _ (heap_setCell_same _ _ _ _ _ _ (heap_setCell_same _ _ _ _ _ _ rW)))]; rfl
      have hwR : w.heap.size ≤ R := by rw [HR.out]; exact Nat.le_refl _
      have hwD : w.heap.size ≤ D := by have := HRD.out; omega
      have bwr : Below w.heap.size w wr := HB.out.trans (hbD.mono hwD)
      have bY : Below w.heap.size w Y := by rw [hY]; exact (((bwr.setCell (p := ⟨R, 0, none⟩) hwR _).setCell (p := ⟨R, 1, none⟩) hwR _).setCell (p := ⟨R, 2, none⟩) hwR _).setCell (p := ⟨R, 3, none⟩) hwR _
      have oth : ∀ i, i ≠ R → Y.heap[i]? = wr.heap[i]? := fun i hi => by
        rw [hY, heap_setCell_other _ _ _ _ (by exact hi), heap_setCell_other _ _ _ _ (by exact hi), heap_setCell_other _ _ _ _ (by exact hi), heap_setCell_other _ _ _ _ (by exact hi)]
      have HOY : Hid (OwnC Y w.heap.size (.slice va vn vc) (M.chgsAt l (Q2 + 1) k)) := ownsRow_lower (keep_row ob fun i hi e => oth i (by have := (World.ownsRow.lt ob i e).1; have := HRD.out; omega)) (by omega)
      have HBY : Hid (Below w.heap.size w Y) := bY
      have HY0 : Aside (Y.cell? ⟨R, 0, none⟩ = some (.int .i64 (B0 : Int)) ∧ Y.cell? ⟨R, 1, none⟩ = some (.string so) ∧ Y.cell? ⟨R, 2, none⟩ = some (.string st) ∧ Y.cell? ⟨R, 3, none⟩ = some (.slice va vn vc)) := ⟨by rw [cell_of_row _ _ _ _ _ _ qY]; rfl, by rw [cell_of_row _ _ _ _ _ _ qY]; rfl, by rw [cell_of_row _ _ _ _ _ _ qY]; rfl, by rw [cell_of_row _ _ _ _ _ _ qY]; rfl⟩
      have HYe : Hid (Y = (((wr.setCell ⟨R, 0, none⟩ (.int .i64 (B0 : Int))).setCell ⟨R, 1, none⟩ (.string so)).setCell ⟨R, 2, none⟩ (.string st)).setCell ⟨R, 3, none⟩ (.slice va vn vc)) := hY
      have HEnd : Hid (l.length - (l.drop q).length = q) := by unfold Hid; rw [List.length_drop, ← HLl.out]; omega
      clear blk ob hbX hQq hQ3e hDl hbD rW hY qY hwR hwD bwr bY oth
      go_wp2
      rw [← HYe.out]
      obtain ⟨y0, y1, y2, y3⟩ := HY0.out
      refine bodyPost_ret (v := .tuple #[.agg #[.int .i64 (B0 : Int), .string so, .string st, .slice va vn vc], .int .i64 (q : Int)]) (by simp [results, Tryz.results69, go_sem, y0, y1, y2, y3]) rfl ?_
      refine ⟨HBY.out, Or.inl ⟨_, _, _, HRA.out, by rw [HEnd.out], va, vn, vc, ?_, HOY.out⟩⟩
      rw [HSo.out, HSt.out]; rfl
end Go.Proofs.YtcgpgflnihjpiafGreat

/- The reference's ReplayOf. -/
namespace Go.Proofs.YtcgpgflnihjpiafGreat
open Go.RowKit

set_option maxRecDepth 100000 in
set_option maxHeartbeats 4000000 in
theorem replayOf_any (l : M.By) (w : World) (hl : l.length ≤ 9223372036854775807) :
    Calls Tryz.prog 24 #[.string (M.str l)] w fun e w' => Below w.heap.size w w' ∧
      ((4096 < l.length ∧ e = .returned (.tuple #[.slice none 0 0, .int .i64 0, .int .i64 2])) ∨
       (l.length ≤ 4096 ∧ ∃ v, e = .returned (.tuple #[v, .int .i64 ((l.length - (M.rAs 60 l).2.length : Nat) : Int), .int .i64 0]) ∧ OwnA w' w.heap.size v (M.rAs 60 l).1)) := by
  obtain ⟨s, hs⟩ : ∃ s, s = M.str l := ⟨_, rfl⟩
  have hsz : s.size = l.length := by rw [hs, M.str_size]
  obtain ⟨L, hL⟩ : ∃ L, L = l.length := ⟨_, rfl⟩
  rw [← hL] at hsz hl
  rw [← hs]
  obtain ⟨i1, hi1, hy0, hy1, hy2⟩ := info_parts infoAct
  by_cases h : 4096 < L
  · have hb : decide ((4096 : Int) < (L : Int)) = true := by simp; omega
    have HL : Hid (4096 < l.length) := by unfold Hid; omega
    clear hL hs h
    go_enter Tryz.func24, Tryz.ntmps24
    go_wp2
    go_ret3
    exact ⟨Below.refl _ _, Or.inl ⟨HL.out, rfl⟩⟩
  · have hb : decide ((4096 : Int) < (L : Int)) = false := by simp; omega
    have HL : Hid (l.length ≤ 4096) := by unfold Hid; omega
    have HS : Hid (s = M.str l) := hs
    have HLl : Aside (L = l.length) := hL
    clear hL hs h
    go_enter Tryz.func24, Tryz.ntmps24
    go_wp2_with fail
    go_loopg [5, 6] 60 (fun g v i wr => ∃ (k by' : Nat) (xs : List M.Act) (t : M.By), k + g = 60 ∧ i = .int .i64 by' ∧ Aside (t = l.drop by') ∧ Aside (by' ≤ L) ∧ Aside (M.rAs 60 l = (xs ++ (M.rAs g t).1, (M.rAs g t).2)) ∧ Aside (xs.length = k) ∧ Aside (OwnA wr w.heap.size v xs) ∧ Below w.heap.size w wr)
    case atStart => exact ⟨0, 0, [], l, by omega, rfl, rfl, by unfold Aside; omega, rfl, rfl, OwnA.nil _ _, Below.refl _ _⟩
    case round =>
      obtain ⟨k, by', xs, t, hkg, rfl, HT, HBy, HAs, HLx, HO, hbw⟩ := hrel
      obtain ⟨va, vc, hv, _⟩ := HO.out.ac
      rw [HLx.out] at hv
      subst hv
      have htl : t.length = L - by' := by rw [HT.out, List.length_drop, HLl.out]
      have HTl : Hid (t.length = L - by') := htl
      by_cases hk : k < 60
      · obtain ⟨gq, rfl⟩ : ∃ gq, gk = gq + 1 := ⟨gk - 1, by omega⟩
        have hki : (k : Int) < 60 := by omega
        have e1 : s.extract by' L = M.str t := by rw [HS.out, M.str_drop l by' L HLl.out, HT.out]
        have h2 : (by' : Int) ≤ (L : Int) := by have := HBy.out; omega
        have h3 : 0 ≤ (by' : Int) := by omega
        have K : Hid (Calls Tryz.prog 69 #[.string (M.str t)] wr fun e w' => Below wr.heap.size wr w' ∧
          ((∃ x t' v, M.rA t = some (x, t') ∧ e = .returned (.tuple #[v, .int .i64 ((t.length - t'.length : Nat) : Int)]) ∧ isAct wr.heap.size x v w') ∨
           (M.rA t = none ∧ e = .returned (.tuple #[.agg #[.int .i64 0, .string ⟨#[]⟩, .string ⟨#[]⟩, .slice none 0 0], .int .i64 0])))) := afrom_any t wr (by have h5 := HL.out; have h6 := HLl.out; rw [HTl.out]; omega)
        clear htl
        go_wp2_with fail
        refine K.out.mono ?_
        rintro e w1 ⟨b1, ⟨x, t2, v, h1, rfl, ca, cn, cc, rfl, oc⟩ | ⟨h1, rfl⟩⟩
        · have hb1 := hbw.trans (b1.mono hbw.size)
          obtain ⟨j, hj⟩ : ∃ j, j = t.length - t2.length := ⟨_, rfl⟩
          have hless := M.rA_less h1
          have hj2 : by' + j ≤ L := by have := HTl.out; have := HBy.out; omega
          have hjne : ((j : Int) == 0) = false := by simp; omega
          have hjne2 : (j == 0) = false := by simp; omega
          have hjne3 : j ≠ 0 := by omega
          have HT2 : Aside (t2 = l.drop (by' + j)) := by
            unfold Aside
            have := M.rA_drop h1
            rw [← hj] at this
            rw [this, HT.out, List.drop_drop]
          have HAs2 : Aside (M.rAs 60 l = ((xs ++ [x]) ++ (M.rAs gq t2).1, (M.rAs gq t2).2)) := by
            unfold Aside
            rw [HAs.out, M.rAs_more h1]
            simp
          have HLx2 : Aside ((xs ++ [x]).length = k + 1) := by unfold Aside; rw [List.length_append, HLx.out]; rfl
          have hwj : IntKind.i64.wrap ((by' : Int) + (j : Int)) = ((by' + j : Nat) : Int) := by rw [IntKind.wrap_i64]; have := HL.out; have := HLl.out; omega
          unfold actV
          obtain ⟨kd, hkd⟩ : ∃ kd, kd = x.kind := ⟨_, rfl⟩
          obtain ⟨so, hso⟩ : ∃ so, so = M.str x.one := ⟨_, rfl⟩
          obtain ⟨st, hst⟩ : ∃ st, st = M.str x.two := ⟨_, rfl⟩
          rw [← hj, ← hkd, ← hso, ← hst]
          obtain ⟨W2, hW2⟩ : ∃ W2, W2 = w1.alloc (.cells #[.int .i64 kd, .string so, .string st, .slice ca cn cc] 28) := ⟨_, rfl⟩
          obtain ⟨vs, hvl, hrow, hel⟩ := HO.out
          have b2 : Below w1.heap.size w1 W2 := by rw [hW2]; exact (Below.refl _ _).alloc (Nat.le_refl _) _
          have q2 : Below wr.heap.size wr W2 := b1.trans (b2.mono b1.size)
          rw [HLx.out] at hrow
          have HRA : Hid ((W2.alloc (.cells #[.int .i64 kd, .string so, .string st, .slice ca cn cc] 28)).ownsRow w.heap.size 28 4 (.slice va k vc) k (encAct xs vs)) := (ownsRow_later hrow q2).alloc _
          have HCN : Hid (∀ jj u, [Value.int .i64 kd, .string so, .string st, .slice ca cn cc][jj]? = some u → (W2.alloc (.cells #[.int .i64 kd, .string so, .string st, .slice ca cn cc] 28)).cell? ((⟨w1.heap.size + 1, 0, none⟩ : Addr).add jj) = some u) := by
            unfold Hid
            rw [show w1.heap.size + 1 = W2.heap.size by rw [hW2]; simp]
            exact cell_four_new _ _ _ _ _ _
          have HPut : Hid (∀ v' w', w'.ownsRow w.heap.size 28 4 v' (k + 1) (encAct xs vs ++ [.int .i64 kd, .string so, .string st, .slice ca cn cc]) → (W2.alloc (.cells #[.int .i64 kd, .string so, .string st, .slice ca cn cc] 28)).grownBy w' (Value.slice va k vc).ownBlock → OwnA w' w.heap.size v' (xs ++ [x])) := fun v' w' h3 hg => by
            have hba : Below W2.heap.size W2 (W2.alloc (.cells #[.int .i64 kd, .string so, .string st, .slice ca cn cc] 28)) := (Below.refl _ _).alloc (Nat.le_refl _) _
            refine OwnA.append (u := .slice ca cn cc) hvl (by rw [HLx.out]; exact HRA.out) (fun i hi => ownsRow_later (ownsRow_later (hel i hi) q2) hba) (ownsRow_later (ownsRow_later (ownsRow_lower oc hbw.size) b2) hba) ?_ hg
            rw [HLx.out, ← hkd, ← hso, ← hst]; exact h3
          have HB2 : Hid (Below w.heap.size w (W2.alloc (.cells #[.int .i64 kd, .string so, .string st, .slice ca cn cc] 28))) := ((hb1.trans (b2.mono hb1.size))).alloc (hb1.trans (b2.mono hb1.size)).size _
          have HOw : Hid (∀ kk, (Value.slice va k vc).ownBlock = some kk → w.heap.size ≤ kk) := fun kk e => (World.ownsRow.lt hrow kk e).1
          have HW2 : Hid (W2 = w1.alloc (.cells #[.int .i64 kd, .string so, .string st, .slice ca cn cc] 28)) := hW2
          clear h1 oc hless hkd hso hst hj hW2 hvl hrow hel b2 q2 K b1
          go_wp2_with (at_builtin; refine wpList_append_own _ rfl _ _ 56 rfl w.heap.size 28 i1 (.agg #[.int .i64 0, .string ⟨#[]⟩, .string ⟨#[]⟩, .slice none 0 0]) 4 64 Tryz.underlying56 hi1 hy0 hy1 hy2 rfl (by decide) _ k (encAct xs vs) rfl (by rw [← HW2.out]; exact HRA.out) ⟨w1.heap.size + 1, 0, none⟩ 1 1 [.int .i64 kd, .string so, .string st, .slice ca cn cc] rfl rfl (by rw [← HW2.out]; exact HCN.out) (by simp [Value.oneCell']) (by simp only [maxLen]; omega) (by omega) (by rw [← HW2.out]; exact HB2.out.size) ?_)
          rw [← HW2.out]
          intro v3 w3 h6 h7 _
          have HO3 : Aside (OwnA w3 w.heap.size v3 (xs ++ [x])) := HPut.out v3 w3 h6 h7
          have b3 : Below w.heap.size w w3 := HB2.out.grown h7 HB2.out.size HOw.out
          clear h6 h7 HPut HRA HCN HOw
          go_wp2
          go_roundg gq
          case measure => omega
          case rel => exact ⟨k + 1, by' + j, _, t2, by omega, by go_num, HT2, hj2, HAs2, HLx2, HO3, b3⟩
        · have hb1 := hbw.trans (b1.mono hbw.size)
          obtain ⟨W2, hW2⟩ : ∃ W2, W2 = w1.alloc (.cells #[.int .i64 0, .string ⟨#[]⟩, .string ⟨#[]⟩, .slice none 0 0] 28) := ⟨_, rfl⟩
          have b2 : Below w1.heap.size w1 W2 := by rw [hW2]; exact (Below.refl _ _).alloc (Nat.le_refl _) _
          have HW2 : Hid (W2 = w1.alloc (.cells #[.int .i64 0, .string ⟨#[]⟩, .string ⟨#[]⟩, .slice none 0 0] 28)) := hW2
          have HAe : Hid (M.rAs 60 l = (xs, t)) := by unfold Hid; rw [HAs.out, M.rAs_none _ _ h1]; simp
          have HO2 : Hid (OwnA W2 w.heap.size (.slice va k vc) xs) := HO.out.later (b1.trans (b2.mono b1.size))
          have HB2 : Hid (Below w.heap.size w W2) := hb1.trans (b2.mono hb1.size)
          clear hW2 b2 b1 h1 K
          go_wp2
          rw [← HW2.out]
          go_ret3
          refine ⟨HB2.out, Or.inr ⟨HL.out, .slice va k vc, ?_, ?_⟩⟩
          · rw [HAe.out, show l.length - t.length = by' by have := HTl.out; have := HBy.out; have := HLl.out; omega]; rfl
          · rw [HAe.out]; exact HO2.out
      · obtain rfl : k = 60 := by omega
        obtain rfl : gk = 0 := by omega
        have HAe : Hid (M.rAs 60 l = (xs, t)) := by unfold Hid; rw [HAs.out]; simp [M.rAs]
        go_wp2
        go_ret3
        refine ⟨hbw, Or.inr ⟨HL.out, .slice va 60 vc, ?_, ?_⟩⟩
        · rw [HAe.out, show l.length - t.length = by' by have := HTl.out; have := HBy.out; have := HLl.out; omega]; rfl
        · rw [HAe.out]; exact HO.out
end Go.Proofs.YtcgpgflnihjpiafGreat

/- Plain facts on what a pen has put, with no program in sight. -/
namespace Go.Proofs.YtcgpgflnihjpiafGreat.M

def pnB (two : Bool) (n : Int) : Bool := decide (0 ≤ n ∧ n < (if two = true then 65536 else 256))
def pnE (two : Bool) (n : Int) : By := if two = true then b2 n else [b1 n]
/-- One number more: the bytes, and whether a number could not stand. -/
def pnS (two : Bool) (st : By × Bool) (n : Int) : By × Bool := if st.2 = true then st else if pnB two n = true then (st.1 ++ pnE two n, false) else (st.1, true)
def pnL (two : Bool) (st : By × Bool) (ns : List Int) : By × Bool := ns.foldl (pnS two) st
theorem pnL_over (two : Bool) (l : By) (ns : List Int) : pnL two (l, true) ns = (l, true) := by
  induction ns with
  | nil => rfl
  | cons n t ih => unfold pnL at ih ⊢; rw [List.foldl_cons]; exact ih
theorem pnL_take (two : Bool) (st : By × Bool) (ns : List Int) (k : Nat) (h : k < ns.length) : pnL two st (ns.take (k + 1)) = pnS two (pnL two st (ns.take k)) (ns.getD k 0) := by
  unfold pnL
  rw [List.take_succ_eq_append_getElem h, List.foldl_append]
  simp [List.getD, h]
/-- Over once, over for all. -/
theorem pnL_stays (two : Bool) (st : By × Bool) (ns : List Int) (k : Nat) (h : (pnL two st (ns.take k)).2 = true) : pnL two st ns = pnL two st (ns.take k) := by
  have e : pnL two st ns = pnL two (pnL two st (ns.take k)) (ns.drop k) := by
    unfold pnL
    rw [← List.foldl_append, List.take_append_drop]
  rw [e]
  generalize pnL two st (ns.take k) = q at *
  obtain ⟨l, o⟩ := q
  simp only at h
  subst h
  exact pnL_over two l _
theorem byte_mod (n : Nat) : UInt8.ofNat (n % 256) = UInt8.ofNat n := by
  apply UInt8.toNat_inj.1
  rw [UInt8.toNat_ofNat', UInt8.toNat_ofNat']
  omega
/-- A text. -/
def pnT (st : By × Bool) (s : By) : By × Bool := if (pnS false st s.length).2 = true then pnS false st s.length else ((pnS false st s.length).1 ++ s, false)

theorem pnS_len (two : Bool) (st : By × Bool) (n : Int) : (pnS two st n).1.length ≤ st.1.length + 2 := by
  unfold pnS pnE b2
  split
  · omega
  · split
    · cases two <;> simp
    · simp
theorem pnL_len (two : Bool) (st : By × Bool) (ns : List Int) : (pnL two st ns).1.length ≤ st.1.length + 2 * ns.length := by
  unfold pnL
  induction ns generalizing st with
  | nil => simp
  | cons n t ih =>
    rw [List.foldl_cons, List.length_cons]
    have h1 := ih (pnS two st n)
    have h2 := pnS_len two st n
    omega
theorem pnS_small {st : By × Bool} {n : Nat} (h : (pnS false st (n : Int)).2 = false) : n < 256 := by
  unfold pnS pnB at h
  by_cases h1 : st.2 = true
  · rw [if_pos h1] at h; rw [h1] at h; cases h
  · rw [if_neg h1] at h
    by_cases h2 : n < 256
    · exact h2
    · rw [if_neg (by simp; omega)] at h; cases h
theorem pnL_one (two : Bool) (st : By × Bool) (n : Int) : pnL two st [n] = pnS two st n := rfl

theorem pnS_over (two : Bool) (l : By) (n : Int) : pnS two (l, true) n = (l, true) := rfl
theorem pnT_over (l s : By) : pnT (l, true) s = (l, true) := rfl
theorem pnT_len (st : By × Bool) (s : By) : (pnT st s).1.length ≤ st.1.length + 257 := by
  unfold pnT
  have h := pnS_len false st s.length
  split
  · omega
  · rename_i h1
    have h2 := pnS_small (by simpa using h1)
    rw [List.length_append]
    omega
/-- A step: what was over stays so; else something more is put, or it is over. -/
def Step (st st' : By × Bool) (ok : Prop) (add : By) : Prop := (st.2 = true → st' = st) ∧ (st.2 = false → ok → st' = (st.1 ++ add, false)) ∧ (st.2 = false → ¬ ok → st'.2 = true)
theorem Step.then {a b c : By × Bool} {ok ok' : Prop} {x y : By} (h : Step a b ok x) (k : Step b c ok' y) : Step a c (ok ∧ ok') (x ++ y) := by
  refine ⟨fun e => ?_, fun e ⟨h1, h2⟩ => ?_, fun e hn => ?_⟩
  · have e1 := h.1 e
    rw [k.1 (by rw [e1]; exact e), e1]
  · have e1 := h.2.1 e h1
    rw [k.2.1 (by rw [e1]) h2, e1, List.append_assoc]
  · by_cases h1 : ok
    · have e1 := h.2.1 e h1
      exact k.2.2 (by rw [e1]) (fun h2 => hn ⟨h1, h2⟩)
    · have e1 := h.2.2 e h1
      rw [k.1 e1]; exact e1
theorem Step.iff {a b : By × Bool} {ok ok' : Prop} {x y : By} (h : Step a b ok x) (e : ok ↔ ok') (e2 : x = y) : Step a b ok' y := by
  subst e2; rwa [← propext e]
theorem step_num (two : Bool) (st : By × Bool) (n : Int) : Step st (pnS two st n) (pnB two n = true) (pnE two n) := by
  refine ⟨fun e => ?_, fun e h => ?_, fun e h => ?_⟩
  · unfold pnS; rw [if_pos e]
  · unfold pnS; rw [if_neg (by rw [e]; simp), if_pos h]
  · unfold pnS; rw [if_neg (by rw [e]; simp), if_neg h]
theorem step_text (st : By × Bool) (s : By) : Step st (pnT st s) (s.length < 256) (pT s) := by
  have hb : pnB false (s.length : Int) = true ↔ s.length < 256 := by unfold pnB; simp; omega
  obtain ⟨h1, h2, h3⟩ := step_num false st s.length
  refine ⟨fun e => ?_, fun e h => ?_, fun e h => ?_⟩
  · unfold pnT; rw [h1 e, if_pos e]
  · unfold pnT; rw [h2 e (hb.2 h), if_neg (by simp)]; simp [pnE, pT]
  · have := h3 e (fun k => h (hb.1 k))
    unfold pnT; rw [if_pos this, this]
theorem step_list {α : Type} (f : By × Bool → α → By × Bool) (ok : α → Prop) (p : α → By) (hf : ∀ st c, Step st (f st c) (ok c) (p c)) (l : List α) (st : By × Bool) : Step st (l.foldl f st) (∀ c ∈ l, ok c) (l.flatMap p) := by
  induction l generalizing st with
  | nil => exact ⟨fun _ => rfl, fun e _ => by obtain ⟨a, b⟩ := st; simp only at e; subst e; simp, fun _ h => absurd (by simp) h⟩
  | cons c t ih =>
    exact ((hf st c).then (ih (f st c))).iff (by simp) (by simp)
/-- A change, an act. -/
def wC (st : By × Bool) (c : Chg) : By × Bool := pnL true (pnL false st [c.1]) [c.2.1 + 1, c.2.2 + 1]
def wA4 (x : Act) : By × Bool := pnL false (pnT (pnT (pnL false ([], false) [x.kind]) x.one) x.two) [(x.chs.length : Int)]
def wA (x : Act) : By × Bool := x.chs.foldl wC (wA4 x)
theorem step_C (st : By × Bool) (c : Chg) : Step st (wC st c) (okC c) (pC c) := by
  refine (((step_num false st c.1).then (step_num true _ (c.2.1 + 1))).then (step_num true _ (c.2.2 + 1))).iff ?_ ?_
  · unfold pnB okC; simp; omega
  · unfold pnE pC; simp
theorem wA_step (x : Act) : Step ([], false) (wA x) (okA x) (pA x) := by
  refine (((((step_num false ([], false) x.kind).then (step_text _ x.one)).then (step_text _ x.two)).then (step_num false _ x.chs.length)).then (step_list wC okC pC step_C x.chs _)).iff ?_ ?_
  · unfold pnB okA
    simp only [decide_eq_true_eq, Bool.false_eq_true, if_false]
    constructor
    · rintro ⟨⟨⟨⟨h1, h2⟩, h3⟩, h4⟩, h5⟩
      exact ⟨h1, h2, h3, by omega, h5⟩
    · rintro ⟨h1, h2, h3, h4, h5⟩
      exact ⟨⟨⟨⟨h1, h2⟩, h3⟩, by omega⟩, h5⟩
  · unfold pnE pA; simp [pL]
theorem wA_ok {x : Act} (h : okA x) : wA x = (pA x, false) := by
  have := (wA_step x).2.1 rfl h
  simpa using this
theorem wA_bad {x : Act} (h : ¬ okA x) : (wA x).2 = true := (wA_step x).2.2 rfl h
theorem wC_take (st : By × Bool) (l : List Chg) (k : Nat) (h : k < l.length) : (l.take (k + 1)).foldl wC st = wC ((l.take k).foldl wC st) (l.getD k (0, 0, 0)) := by
  rw [List.take_succ_eq_append_getElem h, List.foldl_append]
  simp [List.getD, h]
theorem wC_len (st : By × Bool) (c : Chg) : (wC st c).1.length ≤ st.1.length + 6 := by
  have h1 := pnL_len true (pnL false st [c.1]) [c.2.1 + 1, c.2.2 + 1]
  have h2 := pnL_len false st [c.1]
  unfold wC
  simp at h1 h2
  omega
theorem wC_all (st : By × Bool) (l : List Chg) : (l.foldl wC st).1.length ≤ st.1.length + 6 * l.length := by
  induction l generalizing st with
  | nil => simp
  | cons c t ih =>
    have h1 := ih (wC st c)
    have h2 := wC_len st c
    rw [List.foldl_cons, List.length_cons]
    omega
/-- It never grows long. -/
theorem wA_len (x : Act) (k : Nat) : ((x.chs.take k).foldl wC (wA4 x)).1.length ≤ 10000 := by
  have h4 : (wA4 x).1.length ≤ 600 := by
    have h1 := pnL_len false (pnT (pnT (pnL false ([], false) [x.kind]) x.one) x.two) [(x.chs.length : Int)]
    have h2 := pnT_len (pnT (pnL false ([], false) [x.kind]) x.one) x.two
    have h3 := pnT_len (pnL false ([], false) [x.kind]) x.one
    have h5 := pnL_len false ([], false) [x.kind]
    unfold wA4
    simp only [List.length_singleton, List.length_nil] at h1 h2 h3 h5 ⊢
    omega
  by_cases ho : (wA4 x).2 = true
  · rw [(step_list wC okC pC step_C (x.chs.take k) (wA4 x)).1 ho]; omega
  · have hs : x.chs.length < 256 := pnS_small (st := pnT (pnT (pnL false ([], false) [x.kind]) x.one) x.two) (by rw [Bool.not_eq_true] at ho; exact ho)
    have h1 := wC_all (wA4 x) (x.chs.take k)
    have h2 : (x.chs.take k).length ≤ x.chs.length := by rw [List.length_take]; omega
    omega
def inI (n : Int) : Prop := -9223372036854775808 ≤ n ∧ n ≤ 9223372036854775807
end Go.Proofs.YtcgpgflnihjpiafGreat.M

/- A pen: numbers are put as bytes. -/
namespace Go.Proofs.YtcgpgflnihjpiafGreat
open Go.RowKit

def b8 (l : M.By) : List Value := l.map fun x => .int .u8 (x.toNat : Int)
theorem b8_append (a b : M.By) : b8 (a ++ b) = b8 a ++ b8 b := by simp [b8]
def OwnB (w : World) (base : Nat) (v : Value) (l : M.By) : Prop := w.ownsRow base 5 1 v l.length (b8 l)
/-- A pen lies in the block b. -/
def PenAt (w : World) (base b : Nat) (l : M.By) (ov : Bool) : Prop := ∃ v, w.heap[b]? = some (.cells #[v, .bool ov] 102 (0, 0)) ∧ base ≤ b ∧ OwnB w base v l
theorem PenAt.lt {w : World} {base b : Nat} {l : M.By} {ov : Bool} (h : PenAt w base b l ov) : b < w.heap.size := by
  obtain ⟨v, h1, _⟩ := h
  exact (Array.getElem?_eq_some_iff.1 h1).1
theorem PenAt.later {w w' : World} {base b : Nat} {l : M.By} {ov : Bool} (h : PenAt w base b l ov) (hb : Below w.heap.size w w') : PenAt w' base b l ov := by
  have hlt := h.lt
  obtain ⟨v, h1, h2, h3⟩ := h
  exact ⟨v, (hb.block b hlt).trans h1, h2, ownsRow_later h3 hb⟩
/-- Blocks of other kinds than a pen's stay. -/
def Kp (w w' : World) : Prop := ∀ (k : Nat) (cur : Array Value) (t : TypeId), t ≠ 102 → t ≠ 5 → w.heap[k]? = some (.cells cur t (0, 0)) → w'.heap[k]? = some (.cells cur t (0, 0))
theorem Kp.refl (w : World) : Kp w w := fun _ _ _ _ _ h => h
theorem Kp.trans {a b c : World} (h : Kp a b) (k : Kp b c) : Kp a c := fun n cur t h1 h2 e => k n cur t h1 h2 (h n cur t h1 h2 e)
theorem Kp.of {w w' : World} (h : Below w.heap.size w w') : Kp w w' := fun k _ _ _ _ e => (h.block k (Array.getElem?_eq_some_iff.1 e).1).trans e
theorem Kp.grown {w w' : World} {r : Option Nat} (h : w.grownBy w' r) (hr : ∀ k, r = some k → ∃ cur t, w.heap[k]? = some (.cells cur t (0, 0)) ∧ (t = 102 ∨ t = 5)) : Kp w w' := fun k cur t h1 h2 e => by
  rw [← e]
  refine h.block k (Array.getElem?_eq_some_iff.1 e).1 fun he => ?_
  obtain ⟨cur', t', hc, ht⟩ := hr k he.symm
  rw [hc] at e
  simp at e
  rcases ht with ht | ht
  · exact h1 (e.2 ▸ ht)
  · exact h2 (e.2 ▸ ht)
theorem ownB_block {w : World} {base : Nat} {v : Value} {l : M.By} (h : OwnB w base v l) : ∀ k, v.ownBlock = some k → ∃ cur t, w.heap[k]? = some (.cells cur t (0, 0)) ∧ (t = 102 ∨ t = 5) := by
  intro k e
  rcases h.2 with ⟨rfl, _⟩ | ⟨g, cap, cur, rfl, _, hg, _⟩
  · simp [Value.ownBlock] at e
  · obtain rfl : g = k := by simpa [Value.ownBlock] using e
    exact ⟨cur, _, hg, Or.inr rfl⟩
theorem infoU8 : (Tryz.prog.info? 5).map (fun i => (i.zero, i.size, i.bytes)) = some (some (.int .u8 0), 1, 1) := by kernel_rfl
/-- More bytes are put. -/
theorem PenAt.put {w w1 : World} {base b : Nat} {l m : M.By} {ov : Bool} {v v' : Value} (h1 : w.heap[b]? = some (.cells #[v, .bool ov] 102 (0, 0))) (h2 : base ≤ b) (h3 : OwnB w base v l) (hbw : base ≤ w.heap.size) (hg : w.grownBy w1 v.ownBlock) (h4 : OwnB w1 base v' (l ++ m)) :
    PenAt (w1.setCell ⟨b, 0, none⟩ v') base b (l ++ m) ov ∧ w1.heap[b]? = some (.cells #[v, .bool ov] 102 (0, 0)) ∧ Below base w (w1.setCell ⟨b, 0, none⟩ v') ∧ Kp w (w1.setCell ⟨b, 0, none⟩ v') := by
  have hlt := (Array.getElem?_eq_some_iff.1 h1).1
  have hne : v.ownBlock ≠ some b := fun e => by
    rcases h3.2 with ⟨rfl, _⟩ | ⟨g, cap, cur, rfl, _, hgb, _⟩
    · simp [Value.ownBlock] at e
    · obtain rfl : g = b := by simpa [Value.ownBlock] using e
      rw [h1] at hgb
      simp at hgb
  have hb1 : w1.heap[b]? = some (.cells #[v, .bool ov] 102 (0, 0)) := (hg.block b hlt (fun e => hne e.symm)).trans h1
  have g2 := grownBy_set w1 ⟨b, 0, none⟩ v'
  refine ⟨⟨v', ?_, h2, ownsRow_elsewhere h4 g2 fun r e cur he => ?_⟩, hb1, ((Below.refl _ _).grown hg hbw (fun k e => (World.ownsRow.lt h3 k e).1)).setCell (p := ⟨b, 0, none⟩) h2 _, (Kp.grown hg (ownB_block h3)).trans (Kp.grown g2 fun k e => ?_)⟩
  · rw [heap_setCell_same _ _ _ _ _ _ hb1]; rfl
  · cases e
    rw [show w1.heap[b]? = _ from hb1] at he
    simp at he
  · cases e
    exact ⟨_, _, hb1, Or.inl rfl⟩
/-- A number could not stand. -/
theorem PenAt.mark {w : World} {base b : Nat} {l : M.By} {ov : Bool} {v : Value} (h1 : w.heap[b]? = some (.cells #[v, .bool ov] 102 (0, 0))) (h2 : base ≤ b) (h3 : OwnB w base v l) :
    PenAt (w.setCell ⟨b, 1, none⟩ (.bool true)) base b l true ∧ Below base w (w.setCell ⟨b, 1, none⟩ (.bool true)) ∧ Kp w (w.setCell ⟨b, 1, none⟩ (.bool true)) := by
  have g2 := grownBy_set w ⟨b, 1, none⟩ (.bool true)
  refine ⟨⟨v, ?_, h2, ownsRow_elsewhere h3 g2 fun r e cur he => ?_⟩, (Below.refl _ _).setCell (p := ⟨b, 1, none⟩) h2 _, Kp.grown g2 fun k e => ?_⟩
  · rw [heap_setCell_same _ _ _ _ _ _ h1]; rfl
  · cases e
    rw [show w.heap[b]? = _ from h1] at he
    simp at he
  · cases e
    exact ⟨_, _, h1, Or.inl rfl⟩

theorem step_byte {w : World} {ops : Array Oper} {o : Oper} {a : Act} {K : Act → World → Prop} {Q : Exit → Act → World → Prop} {E : Prop} (hgd : o.guard = none) (s x : Operand)
    (ho : o.op = .call { callee := .builtin .append, args := #[s, x], argTypes := #[100, 100] })
    (base : Nat) (v : Value) (l : M.By) (hs : a.eval s = v) (hown : OwnB w base v l) (ad : Addr) (y : UInt8) (hx : a.eval x = .slice (some ad) 1 1) (hc : w.cell? (ad.add 0) = some (.int .u8 (y.toNat : Int)))
    (hbig : l.length + 1 ≤ 1000000) (hbase : base ≤ w.heap.size)
    (h : ∀ v' w', OwnB w' base v' (l ++ [y]) → w.grownBy w' v.ownBlock → K (a.put o.dst v') w') : if Region.wanted o (yielded ops a.tmps) = true then Oper.wp Tryz.prog o a w K Q else E := by
  obtain ⟨i0, hi, hz0, hz1, hz2⟩ := info_parts infoU8
  refine step_append_any hgd s x _ ho base 5 i0 (.int .u8 0) 1 1 (by kernel_rfl) hi hz0 hz1 hz2 rfl (by omega) v l.length (b8 l) hs hown (some ad) 1 1 (b8 [y]) hx rfl (fun ad' e j u hj => ?_) (fun e => by simp at e) (fun u hu => ?_) (by unfold maxLen; omega) (by omega) hbase (fun v' w' h1 h2 => h v' w' ?_ h2)
  · obtain rfl : ad = ad' := by simpa using e
    match j, hj with
    | 0, hj => simp [b8] at hj; rw [← hj]; exact hc
  · simp [b8] at hu; rw [hu]; rfl
  · unfold OwnB
    rw [b8_append, List.length_append]
    exact h1
set_option maxRecDepth 100000 in
set_option maxHeartbeats 8000000 in
theorem pput1_any (b base : Nat) (l : M.By) (ov : Bool) (a : Option Addr) (m cap : Nat) (ns : List Int) (w : World) (hP : PenAt w base b l ov) (hr : ∀ w', Below base w w' → Kp w w' → Ri w' a m ns) (hm : m ≤ 1000) (hll : ∀ k, (M.pnL false (l, ov) (ns.take k)).1.length ≤ 500000) :
    Calls Tryz.prog 107 #[.pointer (some ⟨b, 0, none⟩), .int .i64 256, .slice a m cap] w fun e w' => (∃ v, e = .returned v) ∧ PenAt w' base b (M.pnL false (l, ov) ns).1 (M.pnL false (l, ov) ns).2 ∧ Below base w w' ∧ Kp w w' := by
  obtain ⟨i1, hi1, hy0, hy1, hy2⟩ := info_parts infoU8
  have HP0 : Aside (PenAt w base b l ov) := hP
  have HRi : Hid (∀ w', Below base w w' → Kp w w' → Ri w' a m ns) := hr
  have HLl : Hid (∀ k, (M.pnL false (l, ov) (ns.take k)).1.length ≤ 500000) := hll
  have hnl : ns.length = m := (hr w (Below.refl _ _) (Kp.refl _)).1
  have HNl : Aside (ns.length = m) := hnl
  clear hP hr hnl hll
  go_enter Tryz.func107, Tryz.ntmps107
  go_wp2_with fail
  go_loopg [11] m (fun g i wr => ∃ k : Nat, k + g = m ∧ i = .int .i64 k ∧ Aside (PenAt wr base b (M.pnL false (l, ov) (ns.take k)).1 (M.pnL false (l, ov) (ns.take k)).2) ∧ Below base w wr ∧ Kp w wr)
  case atStart => exact ⟨0, by omega, rfl, HP0, Below.refl _ _, Kp.refl _⟩
  case round =>
    obtain ⟨k, hk, rfl, HPk, hbel, hkp⟩ := hrel
    by_cases hkm : k < m
    · have hki : (k : Int) < (m : Int) := by omega
      have hkn : k < ns.length := by rw [HNl.out]; exact hkm
      obtain ⟨ab, ao, rfl, hab, hc⟩ : ∃ ab ao, a = some ⟨ab, ao, none⟩ ∧ ab < wr.heap.size ∧ wr.cell? ⟨ab, ao + k, none⟩ = some (.int .i64 (ns.getD k 0)) := by
        rcases (HRi.out wr hbel hkp).cases with ⟨h0, _⟩ | ⟨ab, ao, e, _, _, hB, hc⟩
        · omega
        · exact ⟨ab, ao, e, hB, hc k hkm⟩
      obtain ⟨n, hn⟩ : ∃ n, n = ns.getD k 0 := ⟨_, rfl⟩
      rw [← hn] at hc
      have hst := M.pnL_take false (l, ov) ns k hkn
      rw [← hn] at hst
      obtain ⟨lk, hlk⟩ : ∃ lk, lk = (M.pnL false (l, ov) (ns.take k)).1 := ⟨_, rfl⟩
      obtain ⟨ok, hok⟩ : ∃ ok, ok = (M.pnL false (l, ov) (ns.take k)).2 := ⟨_, rfl⟩
      have hpk : M.pnL false (l, ov) (ns.take k) = (lk, ok) := by rw [hlk, hok]
      have hlk5 : lk.length ≤ 500000 := by rw [hlk]; exact HLl.out k
      rw [← hlk, ← hok] at HPk
      rw [hpk] at hst
      have HSt : Hid (M.pnL false (l, ov) (ns.take (k + 1)) = M.pnS false (lk, ok) n) := hst
      have HPkk : Hid (M.pnL false (l, ov) (ns.take k) = (lk, ok)) := hpk
      obtain ⟨v, blk, hbb, ob⟩ := HPk.out
      obtain ⟨va, vn, vc, rfl⟩ : ∃ va vn vc, v = .slice va vn vc := by
        rcases ob.2 with ⟨e, _⟩ | ⟨g, c, _, e, _⟩
        · exact ⟨_, _, _, e⟩
        · exact ⟨_, _, _, e⟩
      have c0 : wr.cell? ⟨b, 0, none⟩ = some (.slice va vn vc) := by rw [cell_of_row _ _ _ _ _ _ blk]; rfl
      have c1 : wr.cell? ⟨b, 1, none⟩ = some (.bool ok) := by rw [cell_of_row _ _ _ _ _ _ blk]; rfl
      have f1 : wr.frozen? ⟨b, 1, none⟩ = false := frozen_of_row _ _ _ _ _ blk
      clear hst hpk hlk hok hn
      by_cases hg : 0 ≤ n ∧ n < 256
      · have h1 : decide (n < 0) = false := by simp; omega
        have h2 : decide ((256 : Int) ≤ n) = false := by simp; omega
        cases ok with
        | true =>
          have HE : Hid (M.pnL false (l, ov) ns = (lk, true)) := by
            unfold Hid
            rw [M.pnL_stays false (l, ov) ns k (by rw [HPkk.out]), HPkk.out]
          clear blk ob
          go_wp2
          refine bodyPost_ret (results_none rfl _ _ _) rfl ?_
          exact ⟨⟨_, rfl⟩, by rw [HE.out]; exact HPk.out, hbel, hkp⟩
        | false =>
          have hB : M.pnB false n = true := by unfold M.pnB; simp; omega
          have HN : Hid (M.pnL false (l, ov) (ns.take (k + 1)) = (lk ++ M.pnE false n, false)) := by
            unfold Hid
            rw [HSt.out]
            unfold M.pnS
            rw [if_neg (by simp), if_pos hB]
          obtain ⟨nn, rfl⟩ : ∃ nn : Nat, n = (nn : Int) := ⟨n.toNat, by omega⟩
          have hnn : nn < 256 := by omega
          have HPk2 : Aside (PenAt wr base b lk false) := HPk
          clear blk ob hB hg HPk
          go_wp2_with fail
          go_loopg [8] 1 (fun g i wi => ∃ (pl : Int) (cur : M.By), i = .int .i64 pl ∧ ((pl = 1 ∧ g = 1 ∧ cur ++ [UInt8.ofNat nn] = lk ++ M.pnE false (nn : Int)) ∨ (pl = 0 ∧ g = 0 ∧ cur = lk ++ M.pnE false (nn : Int))) ∧ cur.length + g ≤ 500002 ∧ Aside (PenAt wi base b cur false) ∧ Below base wr wi ∧ Kp wr wi)
          case atStart => exact ⟨1, lk, rfl, Or.inl ⟨rfl, rfl, rfl⟩, by omega, HPk2, Below.refl _ _, Kp.refl _⟩
          case round =>
            obtain ⟨pl, cur, rfl, hor, hcu5, HPc, hbi2, hki2⟩ := hrel
            rcases hor with ⟨rfl, rfl, hcu⟩ | ⟨rfl, rfl, hcu⟩
            · obtain ⟨v2, blk2, hbb2, ob2⟩ := HPc.out
              obtain ⟨wa, wn, wc, rfl⟩ : ∃ wa wn wc, v2 = .slice wa wn wc := by
                rcases ob2.2 with ⟨e, _⟩ | ⟨g, c, _, e, _⟩
                · exact ⟨_, _, _, e⟩
                · exact ⟨_, _, _, e⟩
              have d0 : wr.cell? ⟨b, 0, none⟩ = some (.slice wa wn wc) := by rw [cell_of_row _ _ _ _ _ _ blk2]; rfl
              have hw8 : IntKind.u8.wrap ((nn : Nat) : Int) = ((UInt8.ofNat (nn)).toNat : Int) := by rw [UInt8.toNat_ofNat', IntKind.wrap_u8]; omega
              
              have hz64 : IntKind.i64.wrap ((nn : Nat) : Int) = ((nn : Nat) : Int) := by rw [IntKind.wrap_i64]; omega
              obtain ⟨y, hy⟩ : ∃ y : UInt8, y = UInt8.ofNat (nn) := ⟨_, rfl⟩
              rw [← hy] at hw8
              have hbi : b < wr.heap.size := (Array.getElem?_eq_some_iff.1 blk2).1
              have hbasei : base ≤ wr.heap.size := Nat.le_trans hbb2 (Nat.le_of_lt hbi)
              have HSV : Hid (∀ V, Below wr.heap.size wr V → V.cell? ⟨b, 0, none⟩ = some (.slice wa wn wc)) := fun V hV => (hV.cell (p := ⟨b, 0, none⟩) hbi).trans d0
              have HBd : Hid (Below wr.heap.size wr wr.drew) := (Below.refl _ _).drew
              have pb9 : Hid (Below wr.heap.size wr (wr.alloc (.cells #[.int .u8 (y.toNat : Int)] 5)).drew) := ((Below.refl _ _).alloc (Nat.le_refl _) _).drew
              have HBl : Hid ((wr.alloc (.cells #[.int .u8 (y.toNat : Int)] 5)).drew.heap[b]? = some (.cells #[.slice wa wn wc, .bool false] 102 (0, 0))) := (pb9.out.block b hbi).trans blk2
              have HOb : Hid (OwnB (wr.alloc (.cells #[.int .u8 (y.toNat : Int)] 5)).drew base (.slice wa wn wc) cur) := ownsRow_later ob2 pb9.out
              have HY : Hid (y = UInt8.ofNat (nn)) := hy
              clear blk2 ob2 hy
              go_wp2_with fail
              refine wp_region_till 13 (fun V => V.cell? ⟨b, 0, none⟩ = some (.slice wa wn wc)) (by kernel_rfl) (HSV.out _ HBd.out) (fun hHeld => ?_)
              refine till_go 0 (v := .pointer (some ⟨b, 0, none⟩)) rfl (by decide) (by kernel_rfl) (by kernel_rfl) (by kernel_rfl) (fun _ _ _ h => h) (Or.inl ⟨by rfl, fun V _ => (by go_simp)⟩) hHeld ?_
              try simp only [Act.put]
              refine till_go 1 (v := .pointer (some ⟨b, 0, none⟩)) rfl (by decide) (by kernel_rfl) (by kernel_rfl) (by kernel_rfl) (fun _ _ _ h => h) (Or.inl ⟨by rfl, fun V _ => (by go_simp)⟩) hHeld ?_
              try simp only [Act.put]
              refine till_go 2 (v := .pointer (some ⟨b, 0, none⟩)) rfl (by decide) (by kernel_rfl) (by kernel_rfl) (by kernel_rfl) (fun _ _ _ h => h) (Or.inl ⟨by rfl, fun V _ => (by go_simp)⟩) hHeld ?_
              try simp only [Act.put]
              refine till_go 3 (v := .pointer (some ⟨b, 0, none⟩)) rfl (by decide) (by kernel_rfl) (by kernel_rfl) (by kernel_rfl) (fun _ _ _ h => h) (Or.inl ⟨by rfl, fun V _ => (by go_simp)⟩) hHeld ?_
              try simp only [Act.put]
              refine till_take 4 (v := .slice wa wn wc) rfl (by decide) (by kernel_rfl) (by kernel_rfl) (by kernel_rfl) (by kernel_rfl) (by kernel_rfl) (fun _ _ _ h => h) (Or.inl ⟨by rfl, fun V hV => (by have v0 := hV; go_simp)⟩) hHeld ?_
              try simp only [Act.put]
              refine till_go 5 (v := .int .i64 (nn : Int)) rfl (by decide) (by kernel_rfl) (by kernel_rfl) (by kernel_rfl) (fun _ _ _ h => h) (Or.inl ⟨by rfl, fun V _ => (by go_simp)⟩) hHeld ?_
              try simp only [Act.put]
              refine till_go 6 (v := .int .i64 1) rfl (by decide) (by kernel_rfl) (by kernel_rfl) (by kernel_rfl) (fun _ _ _ h => h) (Or.inl ⟨by rfl, fun V _ => (by go_simp)⟩) hHeld ?_
              try simp only [Act.put]
              refine till_go 7 (v := .int .i64 ((nn : Nat) : Int)) rfl (by decide) (by kernel_rfl) (by kernel_rfl) (by kernel_rfl) (fun _ _ _ h => h) (Or.inl ⟨by rfl, fun V _ => (by go_simp)⟩) hHeld ?_
              try simp only [Act.put]
              refine till_go 8 (v := .int .u8 (y.toNat : Int)) rfl (by decide) (by kernel_rfl) (by kernel_rfl) (by kernel_rfl) (fun _ _ _ h => h) (Or.inl ⟨by rfl, fun V _ => (by go_simp)⟩) hHeld ?_
              try simp only [Act.put]
              refine till_step 9 rfl (by decide) (by kernel_rfl) (fun K hK => ?_)
              go_simp
              refine hK.out _ _ (HSV.out _ pb9.out) (fun hHeld => ?_)
              clear hK K
              refine till_step 10 rfl (by decide) (by kernel_rfl) (fun K hK => ?_)
              refine step_byte rfl _ _ rfl base _ cur rfl HOb.out ⟨wr.heap.size, 0, none⟩ y rfl (by simp [go_sem]) (by omega) (by simp; omega) ?_
              intro v8 w8 o8 g8
              obtain ⟨qa, qn, qc, rfl⟩ : ∃ qa qn qc, v8 = .slice qa qn qc := by
                rcases o8.2 with ⟨e, _⟩ | ⟨g, c, _, e, _⟩
                · exact ⟨_, _, _, e⟩
                · exact ⟨_, _, _, e⟩
              obtain ⟨P1, P2, P3, P4⟩ := PenAt.put (m := [y]) HBl.out hbb2 HOb.out (by simp; omega) g8 o8
              have k8 : w8.cell? ⟨b, 0, none⟩ = some (.slice wa wn wc) := by rw [cell_of_row _ _ _ _ _ _ P2]; rfl
              have f8 : w8.frozen? ⟨b, 0, none⟩ = false := frozen_of_row _ _ _ _ _ P2
              have HP1 : Hid (PenAt (w8.setCell ⟨b, 0, none⟩ (.slice qa qn qc)) base b (cur ++ [y]) false) := P1
              have HP3 : Hid (Below base wr (w8.setCell ⟨b, 0, none⟩ (.slice qa qn qc))) := (pb9.out.mono hbasei).trans P3
              have HP4 : Hid (Kp wr (w8.setCell ⟨b, 0, none⟩ (.slice qa qn qc))) := (Kp.of pb9.out).trans P4
              clear P1 P2 P3 P4 o8 g8
              refine hK.out _ _ k8 (fun hHeld => ?_)
              clear hK K
              refine till_go 11 (v := .pointer (some ⟨b, 0, none⟩)) rfl (by decide) (by kernel_rfl) (by kernel_rfl) (by kernel_rfl) (fun _ _ _ h => h) (Or.inl ⟨by rfl, fun V _ => (by go_simp)⟩) hHeld ?_
              try simp only [Act.put]
              refine till_go 12 (v := .pointer (some ⟨b, 0, none⟩)) rfl (by decide) (by kernel_rfl) (by kernel_rfl) (by kernel_rfl) (fun _ _ _ h => h) (Or.inl ⟨by rfl, fun V _ => (by go_simp)⟩) hHeld ?_
              try simp only [Act.put]
              refine till_last rfl (by kernel_rfl) (by kernel_rfl) (fun K hK => ?_) _
              go_simp
              refine hK.out _ _ ?_
              clear hK K
              go_wp2
              go_roundg 0
              case measure => omega
              case rel => exact ⟨0, cur ++ [y], by go_num, Or.inr ⟨rfl, rfl, by rw [HY.out]; exact hcu⟩, by simp; omega, HP1.out, hbi2.trans HP3.out, hki2.trans HP4.out⟩
            · subst hcu
              go_wp2
              go_roundg (gk - 1)
              case measure => omega
              case rel => exact ⟨k + 1, by omega, by go_num, by rw [HN.out]; exact HPc, hbel.trans hbi2, hkp.trans hki2⟩
            
      · have HE : Hid (M.pnL false (l, ov) ns = (lk, true)) := by
          have e : M.pnS false (lk, ok) n = (lk, true) := by
            unfold M.pnS
            cases ok with
            | true => rfl
            | false =>
              have hB : M.pnB false n = false := by unfold M.pnB; simp; omega
              rw [if_neg (by simp), if_neg (by rw [hB]; simp)]
          unfold Hid
          rw [M.pnL_stays false (l, ov) ns (k + 1) (by rw [HSt.out, e]), HSt.out, e]
        obtain ⟨P1, P2, P3⟩ := PenAt.mark blk hbb ob
        obtain ⟨X, hX⟩ : ∃ X, X = wr.setCell ⟨b, 1, none⟩ (.bool true) := ⟨_, rfl⟩
        rw [← hX] at P1 P2 P3
        have HX : Hid (X = wr.setCell ⟨b, 1, none⟩ (.bool true)) := hX
        have HPX : Hid (PenAt X base b lk true) := P1
        have x1 : X.cell? ⟨b, 1, none⟩ = some (.bool true) := by obtain ⟨u, hu, _⟩ := P1; rw [cell_of_row _ _ _ _ _ _ hu]; rfl
        rw [hX] at x1
        have bX := hbel.trans P2
        have kX := hkp.trans P3
        clear blk ob P1 P2 P3 hX
        by_cases hneg : n < 0
        · have h1 : decide (n < 0) = true := by simp [hneg]
          clear hneg hg
          go_wp2
          rw [← HX.out]
          refine bodyPost_ret (results_none rfl _ _ _) rfl ?_
          exact ⟨⟨_, rfl⟩, by rw [HE.out]; exact HPX.out, bX, kX⟩
        · have h1 : decide (n < 0) = false := by simp; omega
          have h2 : decide ((256 : Int) ≤ n) = true := by simp; omega
          clear hneg hg
          go_wp2
          rw [← HX.out]
          refine bodyPost_ret (results_none rfl _ _ _) rfl ?_
          exact ⟨⟨_, rfl⟩, by rw [HE.out]; exact HPX.out, bX, kX⟩
    · obtain rfl : k = m := by omega
      have hkk2 : decide ((k : Int) < (k : Int)) = false := by simp
      have e1 : ns.take k = ns := List.take_of_length_le (by rw [HNl.out]; exact Nat.le_refl _)
      have HPe : Hid (PenAt wr base b (M.pnL false (l, ov) ns).1 (M.pnL false (l, ov) ns).2) := by have := HPk.out; rw [e1] at this; exact this
      clear e1
      go_wp2
      go_end0
      exact ⟨⟨_, rfl⟩, HPe.out, hbel, hkp⟩

set_option maxRecDepth 100000 in
set_option maxHeartbeats 8000000 in
theorem pput2_any (b base : Nat) (l : M.By) (ov : Bool) (a : Option Addr) (m cap : Nat) (ns : List Int) (w : World) (hP : PenAt w base b l ov) (hr : ∀ w', Below base w w' → Kp w w' → Ri w' a m ns) (hm : m ≤ 1000) (hll : ∀ k, (M.pnL true (l, ov) (ns.take k)).1.length ≤ 500000) :
    Calls Tryz.prog 107 #[.pointer (some ⟨b, 0, none⟩), .int .i64 65536, .slice a m cap] w fun e w' => (∃ v, e = .returned v) ∧ PenAt w' base b (M.pnL true (l, ov) ns).1 (M.pnL true (l, ov) ns).2 ∧ Below base w w' ∧ Kp w w' := by
  obtain ⟨i1, hi1, hy0, hy1, hy2⟩ := info_parts infoU8
  have HP0 : Aside (PenAt w base b l ov) := hP
  have HRi : Hid (∀ w', Below base w w' → Kp w w' → Ri w' a m ns) := hr
  have HLl : Hid (∀ k, (M.pnL true (l, ov) (ns.take k)).1.length ≤ 500000) := hll
  have hnl : ns.length = m := (hr w (Below.refl _ _) (Kp.refl _)).1
  have HNl : Aside (ns.length = m) := hnl
  clear hP hr hnl hll
  go_enter Tryz.func107, Tryz.ntmps107
  go_wp2_with fail
  go_loopg [11] m (fun g i wr => ∃ k : Nat, k + g = m ∧ i = .int .i64 k ∧ Aside (PenAt wr base b (M.pnL true (l, ov) (ns.take k)).1 (M.pnL true (l, ov) (ns.take k)).2) ∧ Below base w wr ∧ Kp w wr)
  case atStart => exact ⟨0, by omega, rfl, HP0, Below.refl _ _, Kp.refl _⟩
  case round =>
    obtain ⟨k, hk, rfl, HPk, hbel, hkp⟩ := hrel
    by_cases hkm : k < m
    · have hki : (k : Int) < (m : Int) := by omega
      have hkn : k < ns.length := by rw [HNl.out]; exact hkm
      obtain ⟨ab, ao, rfl, hab, hc⟩ : ∃ ab ao, a = some ⟨ab, ao, none⟩ ∧ ab < wr.heap.size ∧ wr.cell? ⟨ab, ao + k, none⟩ = some (.int .i64 (ns.getD k 0)) := by
        rcases (HRi.out wr hbel hkp).cases with ⟨h0, _⟩ | ⟨ab, ao, e, _, _, hB, hc⟩
        · omega
        · exact ⟨ab, ao, e, hB, hc k hkm⟩
      obtain ⟨n, hn⟩ : ∃ n, n = ns.getD k 0 := ⟨_, rfl⟩
      rw [← hn] at hc
      have hst := M.pnL_take true (l, ov) ns k hkn
      rw [← hn] at hst
      obtain ⟨lk, hlk⟩ : ∃ lk, lk = (M.pnL true (l, ov) (ns.take k)).1 := ⟨_, rfl⟩
      obtain ⟨ok, hok⟩ : ∃ ok, ok = (M.pnL true (l, ov) (ns.take k)).2 := ⟨_, rfl⟩
      have hpk : M.pnL true (l, ov) (ns.take k) = (lk, ok) := by rw [hlk, hok]
      have hlk5 : lk.length ≤ 500000 := by rw [hlk]; exact HLl.out k
      rw [← hlk, ← hok] at HPk
      rw [hpk] at hst
      have HSt : Hid (M.pnL true (l, ov) (ns.take (k + 1)) = M.pnS true (lk, ok) n) := hst
      have HPkk : Hid (M.pnL true (l, ov) (ns.take k) = (lk, ok)) := hpk
      obtain ⟨v, blk, hbb, ob⟩ := HPk.out
      obtain ⟨va, vn, vc, rfl⟩ : ∃ va vn vc, v = .slice va vn vc := by
        rcases ob.2 with ⟨e, _⟩ | ⟨g, c, _, e, _⟩
        · exact ⟨_, _, _, e⟩
        · exact ⟨_, _, _, e⟩
      have c0 : wr.cell? ⟨b, 0, none⟩ = some (.slice va vn vc) := by rw [cell_of_row _ _ _ _ _ _ blk]; rfl
      have c1 : wr.cell? ⟨b, 1, none⟩ = some (.bool ok) := by rw [cell_of_row _ _ _ _ _ _ blk]; rfl
      have f1 : wr.frozen? ⟨b, 1, none⟩ = false := frozen_of_row _ _ _ _ _ blk
      clear hst hpk hlk hok hn
      by_cases hg : 0 ≤ n ∧ n < 65536
      · have h1 : decide (n < 0) = false := by simp; omega
        have h2 : decide ((65536 : Int) ≤ n) = false := by simp; omega
        cases ok with
        | true =>
          have HE : Hid (M.pnL true (l, ov) ns = (lk, true)) := by
            unfold Hid
            rw [M.pnL_stays true (l, ov) ns k (by rw [HPkk.out]), HPkk.out]
          clear blk ob
          go_wp2
          refine bodyPost_ret (results_none rfl _ _ _) rfl ?_
          exact ⟨⟨_, rfl⟩, by rw [HE.out]; exact HPk.out, hbel, hkp⟩
        | false =>
          have hB : M.pnB true n = true := by unfold M.pnB; simp; omega
          have HN : Hid (M.pnL true (l, ov) (ns.take (k + 1)) = (lk ++ M.pnE true n, false)) := by
            unfold Hid
            rw [HSt.out]
            unfold M.pnS
            rw [if_neg (by simp), if_pos hB]
          obtain ⟨nn, rfl⟩ : ∃ nn : Nat, n = (nn : Int) := ⟨n.toNat, by omega⟩
          have hnn : nn < 65536 := by omega
          have HPk2 : Aside (PenAt wr base b lk false) := HPk
          clear blk ob hB hg HPk
          go_wp2_with fail
          go_loopg [8] 2 (fun g i wi => ∃ (pl : Int) (cur : M.By), i = .int .i64 pl ∧ ((pl = 256 ∧ g = 2 ∧ cur = lk) ∨ (pl = 1 ∧ g = 1 ∧ cur ++ [UInt8.ofNat nn] = lk ++ M.pnE true (nn : Int)) ∨ (pl = 0 ∧ g = 0 ∧ cur = lk ++ M.pnE true (nn : Int))) ∧ cur.length + g ≤ 500002 ∧ Aside (PenAt wi base b cur false) ∧ Below base wr wi ∧ Kp wr wi)
          case atStart => exact ⟨256, lk, rfl, Or.inl ⟨rfl, rfl, rfl⟩, by omega, HPk2, Below.refl _ _, Kp.refl _⟩
          case round =>
            obtain ⟨pl, cur, rfl, hor, hcu5, HPc, hbi2, hki2⟩ := hrel
            rcases hor with ⟨rfl, rfl, hcu⟩ | ⟨rfl, rfl, hcu⟩ | ⟨rfl, rfl, hcu⟩
            · obtain ⟨z, hz⟩ : ∃ z : Nat, z = nn / 256 := ⟨_, rfl⟩
              have hzl : z < 256 := by omega
              have HZ : Hid (z = nn / 256) := hz
              obtain ⟨v2, blk2, hbb2, ob2⟩ := HPc.out
              obtain ⟨wa, wn, wc, rfl⟩ : ∃ wa wn wc, v2 = .slice wa wn wc := by
                rcases ob2.2 with ⟨e, _⟩ | ⟨g, c, _, e, _⟩
                · exact ⟨_, _, _, e⟩
                · exact ⟨_, _, _, e⟩
              have d0 : wr.cell? ⟨b, 0, none⟩ = some (.slice wa wn wc) := by rw [cell_of_row _ _ _ _ _ _ blk2]; rfl
              have hw8 : IntKind.u8.wrap ((z : Nat) : Int) = ((UInt8.ofNat (z)).toNat : Int) := by rw [UInt8.toNat_ofNat', IntKind.wrap_u8]; omega
              have hq : (nn : Int) / 256 = ((z : Nat) : Int) := by rw [hz]; omega
              have hz64 : IntKind.i64.wrap ((z : Nat) : Int) = ((z : Nat) : Int) := by rw [IntKind.wrap_i64]; omega
              obtain ⟨y, hy⟩ : ∃ y : UInt8, y = UInt8.ofNat (z) := ⟨_, rfl⟩
              rw [← hy] at hw8
              have hbi : b < wr.heap.size := (Array.getElem?_eq_some_iff.1 blk2).1
              have hbasei : base ≤ wr.heap.size := Nat.le_trans hbb2 (Nat.le_of_lt hbi)
              have HSV : Hid (∀ V, Below wr.heap.size wr V → V.cell? ⟨b, 0, none⟩ = some (.slice wa wn wc)) := fun V hV => (hV.cell (p := ⟨b, 0, none⟩) hbi).trans d0
              have HBd : Hid (Below wr.heap.size wr wr.drew) := (Below.refl _ _).drew
              have pb9 : Hid (Below wr.heap.size wr (wr.alloc (.cells #[.int .u8 (y.toNat : Int)] 5)).drew) := ((Below.refl _ _).alloc (Nat.le_refl _) _).drew
              have HBl : Hid ((wr.alloc (.cells #[.int .u8 (y.toNat : Int)] 5)).drew.heap[b]? = some (.cells #[.slice wa wn wc, .bool false] 102 (0, 0))) := (pb9.out.block b hbi).trans blk2
              have HOb : Hid (OwnB (wr.alloc (.cells #[.int .u8 (y.toNat : Int)] 5)).drew base (.slice wa wn wc) cur) := ownsRow_later ob2 pb9.out
              have HY : Hid (y = UInt8.ofNat (z)) := hy
              clear blk2 ob2 hy hz
              go_wp2_with fail
              refine wp_region_till 13 (fun V => V.cell? ⟨b, 0, none⟩ = some (.slice wa wn wc)) (by kernel_rfl) (HSV.out _ HBd.out) (fun hHeld => ?_)
              refine till_go 0 (v := .pointer (some ⟨b, 0, none⟩)) rfl (by decide) (by kernel_rfl) (by kernel_rfl) (by kernel_rfl) (fun _ _ _ h => h) (Or.inl ⟨by rfl, fun V _ => (by go_simp)⟩) hHeld ?_
              try simp only [Act.put]
              refine till_go 1 (v := .pointer (some ⟨b, 0, none⟩)) rfl (by decide) (by kernel_rfl) (by kernel_rfl) (by kernel_rfl) (fun _ _ _ h => h) (Or.inl ⟨by rfl, fun V _ => (by go_simp)⟩) hHeld ?_
              try simp only [Act.put]
              refine till_go 2 (v := .pointer (some ⟨b, 0, none⟩)) rfl (by decide) (by kernel_rfl) (by kernel_rfl) (by kernel_rfl) (fun _ _ _ h => h) (Or.inl ⟨by rfl, fun V _ => (by go_simp)⟩) hHeld ?_
              try simp only [Act.put]
              refine till_go 3 (v := .pointer (some ⟨b, 0, none⟩)) rfl (by decide) (by kernel_rfl) (by kernel_rfl) (by kernel_rfl) (fun _ _ _ h => h) (Or.inl ⟨by rfl, fun V _ => (by go_simp)⟩) hHeld ?_
              try simp only [Act.put]
              refine till_take 4 (v := .slice wa wn wc) rfl (by decide) (by kernel_rfl) (by kernel_rfl) (by kernel_rfl) (by kernel_rfl) (by kernel_rfl) (fun _ _ _ h => h) (Or.inl ⟨by rfl, fun V hV => (by have v0 := hV; go_simp)⟩) hHeld ?_
              try simp only [Act.put]
              refine till_go 5 (v := .int .i64 (nn : Int)) rfl (by decide) (by kernel_rfl) (by kernel_rfl) (by kernel_rfl) (fun _ _ _ h => h) (Or.inl ⟨by rfl, fun V _ => (by go_simp)⟩) hHeld ?_
              try simp only [Act.put]
              refine till_go 6 (v := .int .i64 256) rfl (by decide) (by kernel_rfl) (by kernel_rfl) (by kernel_rfl) (fun _ _ _ h => h) (Or.inl ⟨by rfl, fun V _ => (by go_simp)⟩) hHeld ?_
              try simp only [Act.put]
              refine till_go 7 (v := .int .i64 ((z : Nat) : Int)) rfl (by decide) (by kernel_rfl) (by kernel_rfl) (by kernel_rfl) (fun _ _ _ h => h) (Or.inl ⟨by rfl, fun V _ => (by go_simp)⟩) hHeld ?_
              try simp only [Act.put]
              refine till_go 8 (v := .int .u8 (y.toNat : Int)) rfl (by decide) (by kernel_rfl) (by kernel_rfl) (by kernel_rfl) (fun _ _ _ h => h) (Or.inl ⟨by rfl, fun V _ => (by go_simp)⟩) hHeld ?_
              try simp only [Act.put]
              refine till_step 9 rfl (by decide) (by kernel_rfl) (fun K hK => ?_)
              go_simp
              refine hK.out _ _ (HSV.out _ pb9.out) (fun hHeld => ?_)
              clear hK K
              refine till_step 10 rfl (by decide) (by kernel_rfl) (fun K hK => ?_)
              refine step_byte rfl _ _ rfl base _ cur rfl HOb.out ⟨wr.heap.size, 0, none⟩ y rfl (by simp [go_sem]) (by omega) (by simp; omega) ?_
              intro v8 w8 o8 g8
              obtain ⟨qa, qn, qc, rfl⟩ : ∃ qa qn qc, v8 = .slice qa qn qc := by
                rcases o8.2 with ⟨e, _⟩ | ⟨g, c, _, e, _⟩
                · exact ⟨_, _, _, e⟩
                · exact ⟨_, _, _, e⟩
              obtain ⟨P1, P2, P3, P4⟩ := PenAt.put (m := [y]) HBl.out hbb2 HOb.out (by simp; omega) g8 o8
              have k8 : w8.cell? ⟨b, 0, none⟩ = some (.slice wa wn wc) := by rw [cell_of_row _ _ _ _ _ _ P2]; rfl
              have f8 : w8.frozen? ⟨b, 0, none⟩ = false := frozen_of_row _ _ _ _ _ P2
              have HP1 : Hid (PenAt (w8.setCell ⟨b, 0, none⟩ (.slice qa qn qc)) base b (cur ++ [y]) false) := P1
              have HP3 : Hid (Below base wr (w8.setCell ⟨b, 0, none⟩ (.slice qa qn qc))) := (pb9.out.mono hbasei).trans P3
              have HP4 : Hid (Kp wr (w8.setCell ⟨b, 0, none⟩ (.slice qa qn qc))) := (Kp.of pb9.out).trans P4
              clear P1 P2 P3 P4 o8 g8
              refine hK.out _ _ k8 (fun hHeld => ?_)
              clear hK K
              refine till_go 11 (v := .pointer (some ⟨b, 0, none⟩)) rfl (by decide) (by kernel_rfl) (by kernel_rfl) (by kernel_rfl) (fun _ _ _ h => h) (Or.inl ⟨by rfl, fun V _ => (by go_simp)⟩) hHeld ?_
              try simp only [Act.put]
              refine till_go 12 (v := .pointer (some ⟨b, 0, none⟩)) rfl (by decide) (by kernel_rfl) (by kernel_rfl) (by kernel_rfl) (fun _ _ _ h => h) (Or.inl ⟨by rfl, fun V _ => (by go_simp)⟩) hHeld ?_
              try simp only [Act.put]
              refine till_last rfl (by kernel_rfl) (by kernel_rfl) (fun K hK => ?_) _
              go_simp
              refine hK.out _ _ ?_
              clear hK K
              go_wp2
              go_roundg 1
              case measure => omega
              case rel => exact ⟨1, cur ++ [y], by go_num, Or.inr (Or.inl ⟨rfl, rfl, by rw [hcu, HY.out, HZ.out]; unfold M.pnE M.b2; simp [M.byte_mod]⟩), by simp; omega, HP1.out, hbi2.trans HP3.out, hki2.trans HP4.out⟩
            
            · obtain ⟨v2, blk2, hbb2, ob2⟩ := HPc.out
              obtain ⟨wa, wn, wc, rfl⟩ : ∃ wa wn wc, v2 = .slice wa wn wc := by
                rcases ob2.2 with ⟨e, _⟩ | ⟨g, c, _, e, _⟩
                · exact ⟨_, _, _, e⟩
                · exact ⟨_, _, _, e⟩
              have d0 : wr.cell? ⟨b, 0, none⟩ = some (.slice wa wn wc) := by rw [cell_of_row _ _ _ _ _ _ blk2]; rfl
              have hw8 : IntKind.u8.wrap ((nn : Nat) : Int) = ((UInt8.ofNat (nn)).toNat : Int) := by rw [UInt8.toNat_ofNat', IntKind.wrap_u8]; omega
              
              have hz64 : IntKind.i64.wrap ((nn : Nat) : Int) = ((nn : Nat) : Int) := by rw [IntKind.wrap_i64]; omega
              obtain ⟨y, hy⟩ : ∃ y : UInt8, y = UInt8.ofNat (nn) := ⟨_, rfl⟩
              rw [← hy] at hw8
              have hbi : b < wr.heap.size := (Array.getElem?_eq_some_iff.1 blk2).1
              have hbasei : base ≤ wr.heap.size := Nat.le_trans hbb2 (Nat.le_of_lt hbi)
              have HSV : Hid (∀ V, Below wr.heap.size wr V → V.cell? ⟨b, 0, none⟩ = some (.slice wa wn wc)) := fun V hV => (hV.cell (p := ⟨b, 0, none⟩) hbi).trans d0
              have HBd : Hid (Below wr.heap.size wr wr.drew) := (Below.refl _ _).drew
              have pb9 : Hid (Below wr.heap.size wr (wr.alloc (.cells #[.int .u8 (y.toNat : Int)] 5)).drew) := ((Below.refl _ _).alloc (Nat.le_refl _) _).drew
              have HBl : Hid ((wr.alloc (.cells #[.int .u8 (y.toNat : Int)] 5)).drew.heap[b]? = some (.cells #[.slice wa wn wc, .bool false] 102 (0, 0))) := (pb9.out.block b hbi).trans blk2
              have HOb : Hid (OwnB (wr.alloc (.cells #[.int .u8 (y.toNat : Int)] 5)).drew base (.slice wa wn wc) cur) := ownsRow_later ob2 pb9.out
              have HY : Hid (y = UInt8.ofNat (nn)) := hy
              clear blk2 ob2 hy
              go_wp2_with fail
              refine wp_region_till 13 (fun V => V.cell? ⟨b, 0, none⟩ = some (.slice wa wn wc)) (by kernel_rfl) (HSV.out _ HBd.out) (fun hHeld => ?_)
              refine till_go 0 (v := .pointer (some ⟨b, 0, none⟩)) rfl (by decide) (by kernel_rfl) (by kernel_rfl) (by kernel_rfl) (fun _ _ _ h => h) (Or.inl ⟨by rfl, fun V _ => (by go_simp)⟩) hHeld ?_
              try simp only [Act.put]
              refine till_go 1 (v := .pointer (some ⟨b, 0, none⟩)) rfl (by decide) (by kernel_rfl) (by kernel_rfl) (by kernel_rfl) (fun _ _ _ h => h) (Or.inl ⟨by rfl, fun V _ => (by go_simp)⟩) hHeld ?_
              try simp only [Act.put]
              refine till_go 2 (v := .pointer (some ⟨b, 0, none⟩)) rfl (by decide) (by kernel_rfl) (by kernel_rfl) (by kernel_rfl) (fun _ _ _ h => h) (Or.inl ⟨by rfl, fun V _ => (by go_simp)⟩) hHeld ?_
              try simp only [Act.put]
              refine till_go 3 (v := .pointer (some ⟨b, 0, none⟩)) rfl (by decide) (by kernel_rfl) (by kernel_rfl) (by kernel_rfl) (fun _ _ _ h => h) (Or.inl ⟨by rfl, fun V _ => (by go_simp)⟩) hHeld ?_
              try simp only [Act.put]
              refine till_take 4 (v := .slice wa wn wc) rfl (by decide) (by kernel_rfl) (by kernel_rfl) (by kernel_rfl) (by kernel_rfl) (by kernel_rfl) (fun _ _ _ h => h) (Or.inl ⟨by rfl, fun V hV => (by have v0 := hV; go_simp)⟩) hHeld ?_
              try simp only [Act.put]
              refine till_go 5 (v := .int .i64 (nn : Int)) rfl (by decide) (by kernel_rfl) (by kernel_rfl) (by kernel_rfl) (fun _ _ _ h => h) (Or.inl ⟨by rfl, fun V _ => (by go_simp)⟩) hHeld ?_
              try simp only [Act.put]
              refine till_go 6 (v := .int .i64 1) rfl (by decide) (by kernel_rfl) (by kernel_rfl) (by kernel_rfl) (fun _ _ _ h => h) (Or.inl ⟨by rfl, fun V _ => (by go_simp)⟩) hHeld ?_
              try simp only [Act.put]
              refine till_go 7 (v := .int .i64 ((nn : Nat) : Int)) rfl (by decide) (by kernel_rfl) (by kernel_rfl) (by kernel_rfl) (fun _ _ _ h => h) (Or.inl ⟨by rfl, fun V _ => (by go_simp)⟩) hHeld ?_
              try simp only [Act.put]
              refine till_go 8 (v := .int .u8 (y.toNat : Int)) rfl (by decide) (by kernel_rfl) (by kernel_rfl) (by kernel_rfl) (fun _ _ _ h => h) (Or.inl ⟨by rfl, fun V _ => (by go_simp)⟩) hHeld ?_
              try simp only [Act.put]
              refine till_step 9 rfl (by decide) (by kernel_rfl) (fun K hK => ?_)
              go_simp
              refine hK.out _ _ (HSV.out _ pb9.out) (fun hHeld => ?_)
              clear hK K
              refine till_step 10 rfl (by decide) (by kernel_rfl) (fun K hK => ?_)
              refine step_byte rfl _ _ rfl base _ cur rfl HOb.out ⟨wr.heap.size, 0, none⟩ y rfl (by simp [go_sem]) (by omega) (by simp; omega) ?_
              intro v8 w8 o8 g8
              obtain ⟨qa, qn, qc, rfl⟩ : ∃ qa qn qc, v8 = .slice qa qn qc := by
                rcases o8.2 with ⟨e, _⟩ | ⟨g, c, _, e, _⟩
                · exact ⟨_, _, _, e⟩
                · exact ⟨_, _, _, e⟩
              obtain ⟨P1, P2, P3, P4⟩ := PenAt.put (m := [y]) HBl.out hbb2 HOb.out (by simp; omega) g8 o8
              have k8 : w8.cell? ⟨b, 0, none⟩ = some (.slice wa wn wc) := by rw [cell_of_row _ _ _ _ _ _ P2]; rfl
              have f8 : w8.frozen? ⟨b, 0, none⟩ = false := frozen_of_row _ _ _ _ _ P2
              have HP1 : Hid (PenAt (w8.setCell ⟨b, 0, none⟩ (.slice qa qn qc)) base b (cur ++ [y]) false) := P1
              have HP3 : Hid (Below base wr (w8.setCell ⟨b, 0, none⟩ (.slice qa qn qc))) := (pb9.out.mono hbasei).trans P3
              have HP4 : Hid (Kp wr (w8.setCell ⟨b, 0, none⟩ (.slice qa qn qc))) := (Kp.of pb9.out).trans P4
              clear P1 P2 P3 P4 o8 g8
              refine hK.out _ _ k8 (fun hHeld => ?_)
              clear hK K
              refine till_go 11 (v := .pointer (some ⟨b, 0, none⟩)) rfl (by decide) (by kernel_rfl) (by kernel_rfl) (by kernel_rfl) (fun _ _ _ h => h) (Or.inl ⟨by rfl, fun V _ => (by go_simp)⟩) hHeld ?_
              try simp only [Act.put]
              refine till_go 12 (v := .pointer (some ⟨b, 0, none⟩)) rfl (by decide) (by kernel_rfl) (by kernel_rfl) (by kernel_rfl) (fun _ _ _ h => h) (Or.inl ⟨by rfl, fun V _ => (by go_simp)⟩) hHeld ?_
              try simp only [Act.put]
              refine till_last rfl (by kernel_rfl) (by kernel_rfl) (fun K hK => ?_) _
              go_simp
              refine hK.out _ _ ?_
              clear hK K
              go_wp2
              go_roundg 0
              case measure => omega
              case rel => exact ⟨0, cur ++ [y], by go_num, Or.inr (Or.inr ⟨rfl, rfl, by rw [HY.out]; exact hcu⟩), by simp; omega, HP1.out, hbi2.trans HP3.out, hki2.trans HP4.out⟩
            · subst hcu
              go_wp2
              go_roundg (gk - 1)
              case measure => omega
              case rel => exact ⟨k + 1, by omega, by go_num, by rw [HN.out]; exact HPc, hbel.trans hbi2, hkp.trans hki2⟩
            
      · have HE : Hid (M.pnL true (l, ov) ns = (lk, true)) := by
          have e : M.pnS true (lk, ok) n = (lk, true) := by
            unfold M.pnS
            cases ok with
            | true => rfl
            | false =>
              have hB : M.pnB true n = false := by unfold M.pnB; simp; omega
              rw [if_neg (by simp), if_neg (by rw [hB]; simp)]
          unfold Hid
          rw [M.pnL_stays true (l, ov) ns (k + 1) (by rw [HSt.out, e]), HSt.out, e]
        obtain ⟨P1, P2, P3⟩ := PenAt.mark blk hbb ob
        obtain ⟨X, hX⟩ : ∃ X, X = wr.setCell ⟨b, 1, none⟩ (.bool true) := ⟨_, rfl⟩
        rw [← hX] at P1 P2 P3
        have HX : Hid (X = wr.setCell ⟨b, 1, none⟩ (.bool true)) := hX
        have HPX : Hid (PenAt X base b lk true) := P1
        have x1 : X.cell? ⟨b, 1, none⟩ = some (.bool true) := by obtain ⟨u, hu, _⟩ := P1; rw [cell_of_row _ _ _ _ _ _ hu]; rfl
        rw [hX] at x1
        have bX := hbel.trans P2
        have kX := hkp.trans P3
        clear blk ob P1 P2 P3 hX
        by_cases hneg : n < 0
        · have h1 : decide (n < 0) = true := by simp [hneg]
          clear hneg hg
          go_wp2
          rw [← HX.out]
          refine bodyPost_ret (results_none rfl _ _ _) rfl ?_
          exact ⟨⟨_, rfl⟩, by rw [HE.out]; exact HPX.out, bX, kX⟩
        · have h1 : decide (n < 0) = false := by simp; omega
          have h2 : decide ((65536 : Int) ≤ n) = true := by simp; omega
          clear hneg hg
          go_wp2
          rw [← HX.out]
          refine bodyPost_ret (results_none rfl _ _ _) rfl ?_
          exact ⟨⟨_, rfl⟩, by rw [HE.out]; exact HPX.out, bX, kX⟩
    · obtain rfl : k = m := by omega
      have hkk2 : decide ((k : Int) < (k : Int)) = false := by simp
      have e1 : ns.take k = ns := List.take_of_length_le (by rw [HNl.out]; exact Nat.le_refl _)
      have HPe : Hid (PenAt wr base b (M.pnL true (l, ov) ns).1 (M.pnL true (l, ov) ns).2) := by have := HPk.out; rw [e1] at this; exact this
      clear e1
      go_wp2
      go_end0
      exact ⟨⟨_, rfl⟩, HPe.out, hbel, hkp⟩

end Go.Proofs.YtcgpgflnihjpiafGreat
