/- A map of the call's own with numbers as keys, as a function on numbers. -/
import Derived.Test.YtcgpgflnihjpiacBase
import Derived.Test.YtcgpgflnihjpiacDag0
import Derived.Maps.OwnOps
import Derived.Maps.OwnSet
import Derived.Lib.SlKeysI
namespace Go.Proofs.Ytcgpgflnihjpiac
namespace M
theorem sel_rise (p : Nat → Bool) (n : Nat) : (sel p n).Pairwise (· < ·) := by
  induction n with
  | zero => simp [sel]
  | succ n ih =>
    rw [sel]
    split
    · rw [List.pairwise_append]
      refine ⟨ih, by simp, fun x hx y hy => ?_⟩
      obtain ⟨k, hk, _, rfl⟩ := (mem_sel p n x).1 hx
      have : y = (n : Int) := by simpa using hy
      omega
    · exact ih
end M
open Go.RowKit Go.Maps

/-- An element stands for itself. -/
def RH (v : Value) : Option (DataW Value × List MemPlace) := some (.held v, [])
theorem klawM : Keyed Try.prog 3 := int_keyed Try.underlying3
def upd (f : Int → Option Value) (x : Int) (v : Value) : Int → Option Value := fun y => if y = x then some v else f y
theorem upd_same (f : Int → Option Value) (x : Int) (v : Value) : upd f x v x = some v := by simp [upd]
theorem upd_other (f : Int → Option Value) (x y : Int) (v : Value) (h : y ≠ x) : upd f x v y = f y := by simp [upd, h]

/-- Block b is a map that has what f has. -/
def Mp (w : World) (b n : Nat) (f : Int → Option Value) : Prop :=
  ∃ D, w.ownsMap Try.prog 3 RH b n D ∧ (∀ x, Maps.has D (.int .i64 x) = (f x).isSome) ∧ ∀ x v, f x = some v → ∀ zd, D.atKey (.int .i64 x) zd = .held v

theorem Mp.lt {w : World} {b n : Nat} {f : Int → Option Value} (h : Mp w b n f) : b < w.heap.size := by
  obtain ⟨D, h1, _⟩ := h; exact h1.lt
theorem Mp.mono {w : World} {b n n' : Nat} {f : Int → Option Value} (h : Mp w b n f) (hn : n ≤ n') : Mp w b n' f := by
  obtain ⟨D, h1, h2⟩ := h; exact ⟨D, h1.mono hn, h2⟩
theorem Mp.below {w w' : World} {b n B : Nat} {f : Int → Option Value} (h : Mp w b n f) (hb : Below B w w') (hB : b < B) : Mp w' b n f := by
  obtain ⟨D, ⟨es, clock, h0, r⟩, h2⟩ := h
  exact ⟨D, ⟨es, clock, (hb.block b hB).trans h0, r⟩, h2⟩
theorem Mp.alloc {w : World} {b n : Nat} {f : Int → Option Value} (h : Mp w b n f) (o : Obj) : Mp (w.alloc o) b n f := by
  obtain ⟨D, h1, h2⟩ := h; exact ⟨D, h1.alloc o, h2⟩
theorem Mp.kept {w w' : World} {b n : Nat} {row : Option Nat} {f : Int → Option Value} (h : Mp w b n f) (hg : w.grownBy w' row) (hne : some b ≠ row) : Mp w' b n f := by
  obtain ⟨D, h1, h2⟩ := h; exact ⟨D, h1.kept hg hne, h2⟩
theorem Mp.setCell {w : World} {b n : Nat} {f : Int → Option Value} (h : Mp w b n f) {a : Addr} (ha : b ≠ a.block) (u : Value) : Mp (w.setCell a u) b n f := by
  obtain ⟨D, h1, h2⟩ := h; exact ⟨D, h1.setCell ha u, h2⟩
theorem Mp.made (w : World) : Mp (w.alloc (.map #[] 0)) w.heap.size 0 (fun _ => none) :=
  ⟨.map [], World.ownsMap_made w _ _ _, fun x => rfl, fun x v h => by simp at h⟩

theorem keyM (x : Int) (h0 : -9223372036854775808 ≤ x) (h1 : x ≤ 9223372036854775807) : keyOf Try.prog 3 (.int .i64 x) = some (.int .i64 x) := keyOf_int_mk Try.underlying3 (WalkArith.wf_i64 (by omega))

theorem Mp.update {w : World} {b n : Nat} {f : Int → Option Value} {t e : TypeId} (h : Mp w b n f) (ht : Try.prog.underlying t = some (.map 3 e)) (hn : n ≤ 1000) (x : Int) (h0 : -9223372036854775808 ≤ x) (h1 : x ≤ 9223372036854775807) (v : Value) :
    ∃ w', (Instr.mapUpdate t (.map (some b)) (.int .i64 x) v).run Try.prog w = .ok () w' ∧ Mp w' b (n + 1) (upd f x v) ∧ w.grownBy w' (some b) := by
  obtain ⟨D, h2, h3, h4⟩ := h
  have hm := h2.isMap
  obtain ⟨w', hrun, r1, r2⟩ := h2.update klawM ht (by unfold maxLen; omega) (keyM x h0 h1) (show RH v = some (.held v, []) from rfl)
  refine ⟨w', hrun, ⟨_, r1, fun y => ?_, fun y u hy zd => ?_⟩, r2⟩
  · by_cases e : y = x
    · subst e; rw [upd_same, Maps.has_put_same hm (by simp [WideAt.IsKeyLit])]; rfl
    · rw [upd_other f x y v e, Maps.has_put_other (by simpa using e), h3]
  · by_cases e : y = x
    · subst e
      rw [upd_same] at hy
      cases hy
      exact Maps.atKey_put_same hm (by simp [WideAt.IsKeyLit]) _ _
    · rw [upd_other f x y v e] at hy
      rw [Maps.atKey_put_other (by simpa using e)]
      exact h4 y u hy zd

theorem Mp.look {w : World} {b n : Nat} {f : Int → Option Value} {t e : TypeId} (h : Mp w b n f) (ht : Try.prog.underlying t = some (.map 3 e)) {z : Value} (hz : (zeroValue e).run Try.prog w = .ok z w) (x : Int) (h0 : -9223372036854775808 ≤ x) (h1 : x ≤ 9223372036854775807) :
    (Instr.lookup t (.map (some b)) (.int .i64 x) false).run Try.prog w = .ok ((f x).getD z) w := by
  obtain ⟨D, h2, h3, h4⟩ := h
  obtain ⟨v, ps, hrun, hv⟩ := h2.lookup klawM ht hz (show RH z = some (.held z, []) from rfl) (keyM x h0 h1)
  rw [hrun]
  have e : DataW.held v = D.atKey (.int .i64 x) (.held z) := by
    unfold RH at hv
    simp only [Option.some.injEq, Prod.mk.injEq] at hv
    exact hv.1
  cases hf : f x with
  | none =>
    rw [Maps.atKey_of_not_has (by rw [h3, hf]; rfl)] at e
    cases e
    rfl
  | some u =>
    rw [h4 x u hf] at e
    cases e
    rfl
theorem Mp.lookOk {w : World} {b n : Nat} {f : Int → Option Value} {t e : TypeId} (h : Mp w b n f) (ht : Try.prog.underlying t = some (.map 3 e)) {z : Value} (hz : (zeroValue e).run Try.prog w = .ok z w) (x : Int) (h0 : -9223372036854775808 ≤ x) (h1 : x ≤ 9223372036854775807) :
    (Instr.lookup t (.map (some b)) (.int .i64 x) true).run Try.prog w = .ok (.tuple #[(f x).getD z, .bool (f x).isSome]) w := by
  obtain ⟨D, h2, h3, h4⟩ := h
  obtain ⟨v, ps, hrun, hv⟩ := h2.look_ok klawM ht hz (show RH z = some (.held z, []) from rfl) (keyM x h0 h1)
  rw [hrun, h3]
  have e : DataW.held v = D.atKey (.int .i64 x) (.held z) := by
    unfold RH at hv
    simp only [Option.some.injEq, Prod.mk.injEq] at hv
    exact hv.1
  cases hf : f x with
  | none =>
    rw [Maps.atKey_of_not_has (by rw [h3, hf]; rfl)] at e
    cases e
    rfl
  | some u =>
    rw [h4 x u hf] at e
    cases e
    rfl

/-- Its keys, sorted. -/
theorem sorted_sel {D : DataW Value} {w : World} {b n : Nat} (hown : w.ownsMap Try.prog 3 RH b n D) {f : Int → Option Value} (hh : ∀ x, Maps.has D (.int .i64 x) = (f x).isSome) (m : Nat) (hd : ∀ x, (f x).isSome = true → 0 ≤ x ∧ x < (m : Int)) (ss : List Int) (hp : ss.Perm (intKeys D)) :
    ss.mergeSort (fun x y => decide (x ≤ y)) = M.sel (fun k => (f (k : Int)).isSome) m := by
  have hr := M.sel_rise (fun k => (f (k : Int)).isSome) m
  have hc : CollectedI D (fun _ => false) (M.sel (fun k => (f (k : Int)).isSome) m) := by
    refine ⟨hr.imp fun {a b} h => by omega, fun x => ?_⟩
    rw [M.mem_sel, hh]
    constructor
    · rintro ⟨k, _, h2, rfl⟩; exact ⟨h2, rfl⟩
    · rintro ⟨h1, _⟩
      have := hd x h1
      exact ⟨x.toNat, by omega, by rw [Int.toNat_of_nonneg this.1]; exact h1, by omega⟩
  have hq := hc.perm hown klawM Try.underlying3 (fun _ => rfl)
  rw [show (fun x y : Int => decide (x ≤ y)) = leI from rfl, mergeSort_of_perm_i (hp.trans hq.symm)]
  exact List.mergeSort_of_pairwise (hr.imp fun {a b} h => by simp [leI]; omega)
theorem size_keys {D : DataW Value} {w : World} {b n : Nat} (hown : w.ownsMap Try.prog 3 RH b n D) : Maps.size D ≤ n := hown.size_le

section
variable {w : World} {ops : Array Oper} {rest : List Oper} {o : Oper} {a : Act} {Q : Exit → Act → World → Prop}
theorem wp_mp_set (hg : o.guard = none) (m x v : Operand) (t e : TypeId) (hop : o.op = Op.mapUpdate t m x v) (ht : Try.prog.underlying t = some (.map 3 e)) (b n : Nat) (f : Int → Option Value)
    (hm : a.eval m = .map (some b)) (h : Mp w b n f) (hn : n ≤ 1000) (key : Int) (val : Value) (hx : a.eval x = .int .i64 key) (hv : a.eval v = val) (h0 : -9223372036854775808 ≤ key) (h1 : key ≤ 9223372036854775807)
    (hK : ∀ w', Mp w' b (n + 1) (upd f key val) → w.grownBy w' (some b) → wpList Try.prog ops Q rest (a.put o.dst undef) w') : wpList Try.prog ops Q (o :: rest) a w := by
  refine wpList_plain hg fun K' hK' => ?_
  obtain ⟨w', hrun, r1, r2⟩ := h.update ht hn key h0 h1 val
  unfold Oper.wp
  simp [execOp, hop, hm, hx, hv, hrun, Result.andThen]
  exact hK' _ _ (hK w' r1 r2)
theorem wp_mp_get (hg : o.guard = none) (m x : Operand) (t e : TypeId) (hop : o.op = Op.lookup t m x false) (ht : Try.prog.underlying t = some (.map 3 e)) (z : Value) (hz : (zeroValue e).run Try.prog w = .ok z w) (b n : Nat) (f : Int → Option Value)
    (hm : a.eval m = .map (some b)) (h : Mp w b n f) (key : Int) (u : Value) (hu : (f key).getD z = u) (hx : a.eval x = .int .i64 key) (h0 : -9223372036854775808 ≤ key) (h1 : key ≤ 9223372036854775807)
    (hK : wpList Try.prog ops Q rest (a.put o.dst u) w) : wpList Try.prog ops Q (o :: rest) a w := by
  refine wpList_plain hg fun K' hK' => ?_
  have hrun := h.look ht hz key h0 h1
  rw [hu] at hrun
  unfold Oper.wp
  simp [execOp, hop, hm, hx, hrun, Result.andThen]
  exact hK' _ _ hK
theorem wp_mp_ok (hg : o.guard = none) (m x : Operand) (t e : TypeId) (hop : o.op = Op.lookup t m x true) (ht : Try.prog.underlying t = some (.map 3 e)) (z : Value) (hz : (zeroValue e).run Try.prog w = .ok z w) (b n : Nat) (f : Int → Option Value)
    (hm : a.eval m = .map (some b)) (h : Mp w b n f) (key : Int) (u : Value) (y : Bool) (hu : (f key).getD z = u) (hy : (f key).isSome = y) (hx : a.eval x = .int .i64 key) (h0 : -9223372036854775808 ≤ key) (h1 : key ≤ 9223372036854775807)
    (hK : wpList Try.prog ops Q rest (a.put o.dst (.tuple #[u, .bool y])) w) : wpList Try.prog ops Q (o :: rest) a w := by
  refine wpList_plain hg fun K' hK' => ?_
  have hrun := h.lookOk ht hz key h0 h1
  rw [hu, hy] at hrun
  unfold Oper.wp
  simp [execOp, hop, hm, hx, hrun, Result.andThen]
  exact hK' _ _ hK
end
end Go.Proofs.Ytcgpgflnihjpiac
