/- Changes in memory, and changes appended to a row of the call's own. -/
import Derived.Test.YtcgpgflnihjpiacCh0
import Derived.Test.YtcgpgflnihjpiacInts
namespace Go.Proofs.Ytcgpgflnihjpiac
open Go.RowKit

/-- The slice at a, of n changes, holds the changes l. -/
def Rc (w : World) (a : Option Addr) (n : Nat) (l : List M.Chg) : Prop :=
  l.length = n ∧ (n = 0 ∨ ∃ b off, a = some ⟨b, off, none⟩ ∧ b < w.heap.size ∧ ∀ i, i < n → w.cell? ⟨b, off + i * 3, none⟩ = some (.int .i64 (l.getD i (0, 0, 0)).1) ∧ w.cell? ⟨b, off + i * 3 + 1, none⟩ = some (.int .i64 (l.getD i (0, 0, 0)).2.1) ∧ w.cell? ⟨b, off + i * 3 + 2, none⟩ = some (.int .i64 (l.getD i (0, 0, 0)).2.2))
theorem Rc.below {w w' : World} {a : Option Addr} {n : Nat} {l : List M.Chg} (h : Rc w a n l) {B : Nat} (hb : Below B w w') (hB : w.heap.size ≤ B) : Rc w' a n l := by
  obtain ⟨h1, h2⟩ := h
  refine ⟨h1, ?_⟩
  rcases h2 with h2 | ⟨b, off, ha, hlt, hc⟩
  · exact Or.inl h2
  · refine Or.inr ⟨b, off, ha, Nat.lt_of_lt_of_le hlt hb.size, fun i hi => ?_⟩
    rw [hb.cell (p := ⟨b, off + i * 3, none⟩) (by show b < B; omega), hb.cell (p := ⟨b, off + i * 3 + 1, none⟩) (by show b < B; omega), hb.cell (p := ⟨b, off + i * 3 + 2, none⟩) (by show b < B; omega)]
    exact hc i hi
theorem Rc.cases {w : World} {a : Option Addr} {n : Nat} {l : List M.Chg} (h : Rc w a n l) : (n = 0 ∧ l = []) ∨ ∃ b off, a = some ⟨b, off, none⟩ ∧ 0 < n ∧ l.length = n ∧ b < w.heap.size ∧ ∀ i, i < n → w.cell? ⟨b, off + i * 3, none⟩ = some (.int .i64 (l.getD i (0, 0, 0)).1) ∧ w.cell? ⟨b, off + i * 3 + 1, none⟩ = some (.int .i64 (l.getD i (0, 0, 0)).2.1) ∧ w.cell? ⟨b, off + i * 3 + 2, none⟩ = some (.int .i64 (l.getD i (0, 0, 0)).2.2) := by
  obtain ⟨h1, h2⟩ := h
  by_cases hn : n = 0
  · exact Or.inl ⟨hn, List.eq_nil_of_length_eq_zero (by omega)⟩
  · rcases h2 with h2 | ⟨b, off, ha, hlt, hc⟩
    · exact absurd h2 hn
    · exact Or.inr ⟨b, off, ha, by omega, h1, hlt, hc⟩

/-- A change as a value. -/
def cval (c : M.Chg) : Value := .agg #[.int .i64 c.1, .int .i64 c.2.1, .int .i64 c.2.2]
def encC (l : List M.Chg) : List Value := l.flatMap fun c => [.int .i64 c.1, .int .i64 c.2.1, .int .i64 c.2.2]
theorem encC_length (l : List M.Chg) : (encC l).length = l.length * 3 := by
  induction l with
  | nil => rfl
  | cons r t ih => simp [encC] at ih ⊢; omega
theorem encC_append (a b : List M.Chg) : encC (a ++ b) = encC a ++ encC b := by simp [encC]
theorem encC_cons (r : M.Chg) (t : List M.Chg) : encC (r :: t) = .int .i64 r.1 :: .int .i64 r.2.1 :: .int .i64 r.2.2 :: encC t := by simp [encC]
theorem encC_at (l : List M.Chg) (i : Nat) (h : i < l.length) : (encC l)[i * 3]? = some (.int .i64 (l.getD i (0, 0, 0)).1) ∧ (encC l)[i * 3 + 1]? = some (.int .i64 (l.getD i (0, 0, 0)).2.1) ∧ (encC l)[i * 3 + 2]? = some (.int .i64 (l.getD i (0, 0, 0)).2.2) := by
  induction l generalizing i with
  | nil => simp at h
  | cons r t ih =>
    rw [encC_cons]
    cases i with
    | zero => simp
    | succ i =>
      have := ih i (by simpa using h)
      rw [show (i + 1) * 3 = i * 3 + 1 + 1 + 1 by omega]
      simpa using this
theorem encC_one (l : List M.Chg) : ∀ u ∈ encC l, u.oneCell' = true := by
  intro u hu
  simp only [encC, List.mem_flatMap] at hu
  obtain ⟨r, _, h⟩ := hu
  simp at h
  rcases h with rfl | rfl | rfl <;> rfl
/-- The changes l lie in a row of the call's own. -/
def OwnC (w : World) (base : Nat) (v : Value) (l : List M.Chg) : Prop := w.ownsRow base 50 3 v l.length (encC l)
theorem OwnC.nil (w : World) (base : Nat) : OwnC w base (.slice none 0 0) [] := World.ownsRow_nil _ _ _ _
theorem OwnC.mono {w : World} {base base' : Nat} {v : Value} {l : List M.Chg} (h : OwnC w base v l) (hb : base' ≤ base) : OwnC w base' v l := by
  obtain ⟨h1, h2⟩ := h
  refine ⟨h1, ?_⟩
  rcases h2 with h2 | ⟨g, cap, cur, hv, hg, r⟩
  · exact Or.inl h2
  · exact Or.inr ⟨g, cap, cur, hv, Nat.le_trans hb hg, r⟩
theorem OwnC.below {w w' : World} {base : Nat} {v : Value} {l : List M.Chg} (h : OwnC w base v l) (hb : Below w.heap.size w w') : OwnC w' base v l := by
  obtain ⟨h1, h2⟩ := h
  refine ⟨h1, ?_⟩
  rcases h2 with h2 | ⟨g, cap, cur, hv, hg, hh, r⟩
  · exact Or.inl h2
  · exact Or.inr ⟨g, cap, cur, hv, hg, (hb.block g (Array.getElem?_eq_some_iff.1 hh).1).trans hh, r⟩
theorem OwnC.rc {w : World} {base : Nat} {v : Value} {l : List M.Chg} (h : OwnC w base v l) : ∃ a cap, v = .slice a l.length cap ∧ Rc w a l.length l ∧ l.length ≤ cap ∧ cap ≤ maxLen := by
  have h0 := h
  obtain ⟨h1, h2⟩ := h
  rcases h2 with ⟨rfl, hn⟩ | ⟨g, cap, cur, rfl, hb, hh, hc, hm, hs, hx⟩
  · exact ⟨none, 0, by rw [hn], ⟨rfl, Or.inl hn⟩, by omega, by simp [maxLen]⟩
  · refine ⟨_, cap, rfl, ⟨rfl, ?_⟩, hc, hm⟩
    have hlt : g < w.heap.size := (Array.getElem?_eq_some_iff.1 hh).1
    refine Or.inr ⟨g, 0, rfl, hlt, fun i hi => ?_⟩
    have e := encC_at l i hi
    rw [World.ownsRow.cellAt h0 (0 + i * 3) (by omega), World.ownsRow.cellAt h0 (0 + i * 3 + 1) (by omega), World.ownsRow.cellAt h0 (0 + i * 3 + 2) (by omega), Nat.zero_add]
    exact e
/-- Rows of two kinds lie in two blocks. -/
theorem apart_rows {w : World} {b1 b2 : Nat} {t1 t2 : TypeId} {s1 s2 n1 n2 : Nat} {v1 v2 : Value} {x1 x2 : List Value} (h1 : w.ownsRow b1 t1 s1 v1 n1 x1) (h2 : w.ownsRow b2 t2 s2 v2 n2 x2) (hne : t1 ≠ t2) : ∀ k, v1.ownBlock = some k → v2.ownBlock ≠ some k := by
  intro k e1 e2
  obtain ⟨_, k1⟩ := h1
  obtain ⟨_, k2⟩ := h2
  rcases k1 with ⟨rfl, _⟩ | ⟨g, cap, cur, rfl, _, hh, _⟩
  · simp [Value.ownBlock] at e1
  · rcases k2 with ⟨rfl, _⟩ | ⟨g2, cap2, cur2, rfl, _, hh2, _⟩
    · simp [Value.ownBlock] at e2
    · simp [Value.ownBlock] at e1 e2
      subst e1
      rw [e2] at hh2
      rw [hh2] at hh
      simp at hh
      exact hne hh.2.symm
theorem keep_row {w w' : World} {b : Nat} {t : TypeId} {s n : Nat} {v : Value} {x : List Value} (h : w.ownsRow b t s v n x) (hk : ∀ k, k < w.heap.size → v.ownBlock = some k → w'.heap[k]? = w.heap[k]?) : w'.ownsRow b t s v n x := by
  obtain ⟨h1, h2⟩ := h
  refine ⟨h1, ?_⟩
  rcases h2 with h2 | ⟨g, cap, cur, hv, hg, hh, r⟩
  · exact Or.inl h2
  · exact Or.inr ⟨g, cap, cur, hv, hg, (hk g (Array.getElem?_eq_some_iff.1 hh).1 (by rw [hv]; rfl)).trans hh, r⟩

theorem infoChange : (Try.prog.info? 50).map (fun i => (i.zero, i.size, i.bytes)) = some (some (.agg #[.int .i64 0, .int .i64 0, .int .i64 0]), 3, 24) := by kernel_rfl
theorem append_rc {w : World} {ops : Array Oper} {rest : List Oper} {o : Oper} {a : Act} {Q : Exit → Act → World → Prop} (hgd : o.guard = none) (s x : Operand)
    (ho : o.op = .call { callee := .builtin .append, args := #[s, x], argTypes := #[29, 29] })
    (base : Nat) (v : Value) (l : List M.Chg) (hs : a.eval s = v) (hown : OwnC w base v l)
    (b m c : Nat) (l2 : List M.Chg) (hx : a.eval x = .slice (some ⟨b, 0, none⟩) m c) (hl2 : l2.length = m)
    (hc : ∀ i, i < m → w.cell? ⟨b, 0 + i * 3, none⟩ = some (.int .i64 (l2.getD i (0, 0, 0)).1) ∧ w.cell? ⟨b, 0 + i * 3 + 1, none⟩ = some (.int .i64 (l2.getD i (0, 0, 0)).2.1) ∧ w.cell? ⟨b, 0 + i * 3 + 2, none⟩ = some (.int .i64 (l2.getD i (0, 0, 0)).2.2))
    (hbig : l.length + m ≤ 1000000) (hbase : base ≤ w.heap.size)
    (h : ∀ v' w', OwnC w' base v' (l ++ l2) → Below base w w' → (∀ k, k < w.heap.size → v.ownBlock ≠ some k → w'.heap[k]? = w.heap[k]?) → wpList Try.prog ops Q rest (a.put o.dst v') w') : wpList Try.prog ops Q (o :: rest) a w := by
  obtain ⟨i0, hi, hz0, hz1, hz2⟩ := info_parts infoChange
  have hnews : ∀ j u, (encC l2)[j]? = some u → w.cell? ((⟨b, 0, none⟩ : Addr).add j) = some u := by
    intro j u hj
    have hjl : j < (encC l2).length := (List.getElem?_eq_some_iff.1 hj).1
    rw [encC_length, hl2] at hjl
    have hi2 : j / 3 < m := by omega
    have e := encC_at l2 (j / 3) (by omega)
    have q := hc (j / 3) hi2
    rw [Addr.add_lit]
    have h3 : j % 3 = 0 ∨ j % 3 = 1 ∨ j % 3 = 2 := by omega
    rcases h3 with h3 | h3 | h3
    · have ej : j = j / 3 * 3 := by omega
      rw [ej] at hj ⊢
      rw [e.1] at hj
      rw [← hj]; exact q.1
    · have ej : j = j / 3 * 3 + 1 := by omega
      rw [ej] at hj ⊢
      rw [e.2.1] at hj
      rw [← hj, ← Nat.add_assoc]; exact q.2.1
    · have ej : j = j / 3 * 3 + 2 := by omega
      rw [ej] at hj ⊢
      rw [e.2.2] at hj
      rw [← hj, ← Nat.add_assoc]; exact q.2.2
  refine wpList_append_own _ hgd s x 29 ho base 50 i0 (.agg #[.int .i64 0, .int .i64 0, .int .i64 0]) 3 24 Try.underlying29 hi hz0 hz1 hz2 rfl (by decide) v l.length (encC l) hs hown ⟨b, 0, none⟩ m c (encC l2) hx (by rw [encC_length, hl2]) hnews (encC_one l2)
    (by simp only [maxLen]; omega) (by omega) hbase ?_
  intro v' w' h1 h2 _
  refine h v' w' ?_ ((Below.refl _ _).grown h2 hbase fun k hk => (World.ownsRow.lt hown k hk).1) (fun k hk hne => h2.block k hk (fun e => hne e.symm))
  unfold OwnC
  rw [encC_append, List.length_append, hl2]
  exact h1
theorem rc_one (w : World) (x y z : Int) : ∀ i, i < 1 → (w.alloc (.cells #[.int .i64 x, .int .i64 y, .int .i64 z] 50)).cell? ⟨w.heap.size, 0 + i * 3, none⟩ = some (.int .i64 (([(x, y, z)] : List M.Chg).getD i (0, 0, 0)).1) ∧ (w.alloc (.cells #[.int .i64 x, .int .i64 y, .int .i64 z] 50)).cell? ⟨w.heap.size, 0 + i * 3 + 1, none⟩ = some (.int .i64 (([(x, y, z)] : List M.Chg).getD i (0, 0, 0)).2.1) ∧ (w.alloc (.cells #[.int .i64 x, .int .i64 y, .int .i64 z] 50)).cell? ⟨w.heap.size, 0 + i * 3 + 2, none⟩ = some (.int .i64 (([(x, y, z)] : List M.Chg).getD i (0, 0, 0)).2.2) := by
  intro i hi
  obtain rfl : i = 0 := by omega
  refine ⟨?_, ?_, ?_⟩ <;> simp [go_sem]
end Go.Proofs.Ytcgpgflnihjpiac
