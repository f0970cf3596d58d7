/- Ch1. -/
import Derived.Test.YtcgpgflnihjpiagGreatBRestRepos03
import Derived.Test.YtcgpgflnihjpiagGreatBRestRepos01
import Derived.Test.YtcgpgflnihjpiagGreatBRestRepos02
import Derived.WalkLawsBesides
import Derived.Laws.Panics
import Derived.Defers
import Derived.Recover
import Derived.Laws.Pointers
import Derived.Deep.AppendLies
import Derived.Lib.Bytealg
import Derived.Shelf.Abstract
import Derived.Shelf.SlSortCmp.SmallK
namespace Go.Proofs.YtcgpgflnihjpiagGreat
open Go.RowKit
def Rc (w : World) (a : Option Addr) (n : Nat) (l : List M.Chg) : Prop :=
  l.length = n ∧ (n = 0 ∨ ∃ b off, a = some ⟨b, off, none⟩ ∧ b < w.heap.size ∧ ∀ i, i < n → w.cell? ⟨b, off + i * 3, none⟩ = some (.int .i64 (l.getD i (0, 0, 0)).1) ∧ w.cell? ⟨b, off + i * 3 + 1, none⟩ = some (.int .i64 (l.getD i (0, 0, 0)).2.1) ∧ w.cell? ⟨b, off + i * 3 + 2, none⟩ = some (.int .i64 (l.getD i (0, 0, 0)).2.2))
theorem Rc.below {w w' : World} {a : Option Addr} {n : Nat} {l : List M.Chg} (h : Rc w a n l) {B : Nat} (hb : Below B w w') (hB : w.heap.size ≤ B) : Rc w' a n l := by
  obtain ⟨h1, h2⟩ := h
  refine ⟨h1, ?_⟩
  rcases h2 with h2 | ⟨b, off, ha, hlt, hc⟩
  · exact Or.inl h2
  · refine Or.inr ⟨b, off, ha, Nat.lt_of_lt_of_le hlt hb.size, fun i hi => ?_⟩
    rw [hb.cell (p := ⟨b, off + i * 3, none⟩) (by show b < B; omega), hb.cell (p := ⟨b, off + i * 3 + 1, none⟩) (by show b < B; omega), hb.cell (p := ⟨b, off + i * 3 + 2, none⟩) (by show b < B; omega)]
    exact hc i hi
theorem Rc.cases {w : World} {a : Option Addr} {n : Nat} {l : List M.Chg} (h : Rc w a n l) : (n = 0 ∧ l = []) ∨ ∃ b off, a = some ⟨b, off, none⟩ ∧ 0 < n ∧ l.length = n ∧ b < w.heap.size ∧ ∀ i, i < n → w.cell? ⟨b, off + i * 3, none⟩ = some (.int .i64 (l.getD i (0, 0, 0)).1) ∧ w.cell? ⟨b, off + i * 3 + 1, none⟩ = some (.int .i64 (l.getD i (0, 0, 0)).2.1) ∧ w.cell? ⟨b, off + i * 3 + 2, none⟩ = some (.int .i64 (l.getD i (0, 0, 0)).2.2) := by
  obtain ⟨h1, h2⟩ := h
  by_cases hn : n = 0
  · exact Or.inl ⟨hn, List.eq_nil_of_length_eq_zero (by omega)⟩
  · rcases h2 with h2 | ⟨b, off, ha, hlt, hc⟩
    · exact absurd h2 hn
    · exact Or.inr ⟨b, off, ha, by omega, h1, hlt, hc⟩
def cval (c : M.Chg) : Value := .agg #[.int .i64 c.1, .int .i64 c.2.1, .int .i64 c.2.2]
def encC (l : List M.Chg) : List Value := l.flatMap fun c => [.int .i64 c.1, .int .i64 c.2.1, .int .i64 c.2.2]
theorem encC_length (l : List M.Chg) : (encC l).length = l.length * 3 := by
  induction l with
  | nil => rfl
  | cons r t ih => simp [encC] at ih ⊢; omega
theorem encC_append (a b : List M.Chg) : encC (a ++ b) = encC a ++ encC b := by simp [encC]
theorem encC_cons (r : M.Chg) (t : List M.Chg) : encC (r :: t) = .int .i64 r.1 :: .int .i64 r.2.1 :: .int .i64 r.2.2 :: encC t := by simp [encC]
theorem encC_at (l : List M.Chg) (i : Nat) (h : i < l.length) : (encC l)[i * 3]? = some (.int .i64 (l.getD i (0, 0, 0)).1) ∧ (encC l)[i * 3 + 1]? = some (.int .i64 (l.getD i (0, 0, 0)).2.1) ∧ (encC l)[i * 3 + 2]? = some (.int .i64 (l.getD i (0, 0, 0)).2.2) := by
  induction l generalizing i with
  | nil => simp at h
  | cons r t ih =>
    rw [encC_cons]
    cases i with
    | zero => simp
    | succ i =>
      have := ih i (by simpa using h)
      rw [show (i + 1) * 3 = i * 3 + 1 + 1 + 1 by omega]
      simpa using this
theorem encC_one (l : List M.Chg) : ∀ u ∈ encC l, u.oneCell' = true := by
  intro u hu
  simp only [encC, List.mem_flatMap] at hu
  obtain ⟨r, _, h⟩ := hu
  simp at h
  rcases h with rfl | rfl | rfl <;> rfl
def OwnC (w : World) (base : Nat) (v : Value) (l : List M.Chg) : Prop := w.ownsRow base 64 3 v l.length (encC l)
theorem OwnC.nil (w : World) (base : Nat) : OwnC w base (.slice none 0 0) [] := World.ownsRow_nil _ _ _ _
theorem OwnC.mono {w : World} {base base' : Nat} {v : Value} {l : List M.Chg} (h : OwnC w base v l) (hb : base' ≤ base) : OwnC w base' v l := by
  obtain ⟨h1, h2⟩ := h
  refine ⟨h1, ?_⟩
  rcases h2 with h2 | ⟨g, cap, cur, hv, hg, r⟩
  · exact Or.inl h2
  · exact Or.inr ⟨g, cap, cur, hv, Nat.le_trans hb hg, r⟩
theorem OwnC.below {w w' : World} {base : Nat} {v : Value} {l : List M.Chg} (h : OwnC w base v l) (hb : Below w.heap.size w w') : OwnC w' base v l := by
  obtain ⟨h1, h2⟩ := h
  refine ⟨h1, ?_⟩
  rcases h2 with h2 | ⟨g, cap, cur, hv, hg, hh, r⟩
  · exact Or.inl h2
  · exact Or.inr ⟨g, cap, cur, hv, hg, (hb.block g (Array.getElem?_eq_some_iff.1 hh).1).trans hh, r⟩
theorem OwnC.rc {w : World} {base : Nat} {v : Value} {l : List M.Chg} (h : OwnC w base v l) : ∃ a cap, v = .slice a l.length cap ∧ Rc w a l.length l ∧ l.length ≤ cap ∧ cap ≤ maxLen := by
  have h0 := h
  obtain ⟨h1, h2⟩ := h
  rcases h2 with ⟨rfl, hn⟩ | ⟨g, cap, cur, rfl, hb, hh, hc, hm, hs, hx⟩
  · exact ⟨none, 0, by rw [hn], ⟨rfl, Or.inl hn⟩, by omega, by simp [maxLen]⟩
  · refine ⟨_, cap, rfl, ⟨rfl, ?_⟩, hc, hm⟩
    have hlt : g < w.heap.size := (Array.getElem?_eq_some_iff.1 hh).1
    refine Or.inr ⟨g, 0, rfl, hlt, fun i hi => ?_⟩
    have e := encC_at l i hi
    rw [World.ownsRow.cellAt h0 (0 + i * 3) (by omega), World.ownsRow.cellAt h0 (0 + i * 3 + 1) (by omega), World.ownsRow.cellAt h0 (0 + i * 3 + 2) (by omega), Nat.zero_add]
    exact e
theorem apart_rows {w : World} {b1 b2 : Nat} {t1 t2 : TypeId} {s1 s2 n1 n2 : Nat} {v1 v2 : Value} {x1 x2 : List Value} (h1 : w.ownsRow b1 t1 s1 v1 n1 x1) (h2 : w.ownsRow b2 t2 s2 v2 n2 x2) (hne : t1 ≠ t2) : ∀ k, v1.ownBlock = some k → v2.ownBlock ≠ some k := by
  intro k e1 e2
  obtain ⟨_, k1⟩ := h1
  obtain ⟨_, k2⟩ := h2
  rcases k1 with ⟨rfl, _⟩ | ⟨g, cap, cur, rfl, _, hh, _⟩
  · simp [Value.ownBlock] at e1
  · rcases k2 with ⟨rfl, _⟩ | ⟨g2, cap2, cur2, rfl, _, hh2, _⟩
    · simp [Value.ownBlock] at e2
    · simp [Value.ownBlock] at e1 e2
      subst e1
      rw [e2] at hh2
      rw [hh2] at hh
      simp at hh
      exact hne hh.2.symm
theorem keep_row {w w' : World} {b : Nat} {t : TypeId} {s n : Nat} {v : Value} {x : List Value} (h : w.ownsRow b t s v n x) (hk : ∀ k, k < w.heap.size → v.ownBlock = some k → w'.heap[k]? = w.heap[k]?) : w'.ownsRow b t s v n x := by
  obtain ⟨h1, h2⟩ := h
  refine ⟨h1, ?_⟩
  rcases h2 with h2 | ⟨g, cap, cur, hv, hg, hh, r⟩
  · exact Or.inl h2
  · exact Or.inr ⟨g, cap, cur, hv, hg, (hk g (Array.getElem?_eq_some_iff.1 hh).1 (by rw [hv]; rfl)).trans hh, r⟩
theorem infoChange : (Tryz.prog.info? 64).map (fun i => (i.zero, i.size, i.bytes)) = some (some (.agg #[.int .i64 0, .int .i64 0, .int .i64 0]), 3, 24) := by kernel_rfl
theorem append_rc {w : World} {ops : Array Oper} {rest : List Oper} {o : Oper} {a : Act} {Q : Exit → Act → World → Prop} (hgd : o.guard = none) (s x : Operand)
    (ho : o.op = .call { callee := .builtin .append, args := #[s, x], argTypes := #[28, 28] })
    (base : Nat) (v : Value) (l : List M.Chg) (hs : a.eval s = v) (hown : OwnC w base v l)
    (b m c : Nat) (l2 : List M.Chg) (hx : a.eval x = .slice (some ⟨b, 0, none⟩) m c) (hl2 : l2.length = m)
    (hc : ∀ i, i < m → w.cell? ⟨b, 0 + i * 3, none⟩ = some (.int .i64 (l2.getD i (0, 0, 0)).1) ∧ w.cell? ⟨b, 0 + i * 3 + 1, none⟩ = some (.int .i64 (l2.getD i (0, 0, 0)).2.1) ∧ w.cell? ⟨b, 0 + i * 3 + 2, none⟩ = some (.int .i64 (l2.getD i (0, 0, 0)).2.2))
    (hbig : l.length + m ≤ 1000000) (hbase : base ≤ w.heap.size)
    (h : ∀ v' w', OwnC w' base v' (l ++ l2) → Below base w w' → (∀ k, k < w.heap.size → v.ownBlock ≠ some k → w'.heap[k]? = w.heap[k]?) → wpList Tryz.prog ops Q rest (a.put o.dst v') w') : wpList Tryz.prog ops Q (o :: rest) a w := by
  obtain ⟨i0, hi, hz0, hz1, hz2⟩ := info_parts infoChange
  have hnews : ∀ j u, (encC l2)[j]? = some u → w.cell? ((⟨b, 0, none⟩ : Addr).add j) = some u := by
    intro j u hj
    have hjl : j < (encC l2).length := (List.getElem?_eq_some_iff.1 hj).1
    rw [encC_length, hl2] at hjl
    have hi2 : j / 3 < m := by omega
    have e := encC_at l2 (j / 3) (by omega)
    have q := hc (j / 3) hi2
    rw [Addr.add_lit]
    have h3 : j % 3 = 0 ∨ j % 3 = 1 ∨ j % 3 = 2 := by omega
    rcases h3 with h3 | h3 | h3
    · have ej : j = j / 3 * 3 := by omega
      rw [ej] at hj ⊢
      rw [e.1] at hj
      rw [← hj]; exact q.1
    · have ej : j = j / 3 * 3 + 1 := by omega
      rw [ej] at hj ⊢
      rw [e.2.1] at hj
      rw [← hj, ← Nat.add_assoc]; exact q.2.1
    · have ej : j = j / 3 * 3 + 2 := by omega
      rw [ej] at hj ⊢
      rw [e.2.2] at hj
      rw [← hj, ← Nat.add_assoc]; exact q.2.2
  refine wpList_append_own _ hgd s x 28 ho base 64 i0 (.agg #[.int .i64 0, .int .i64 0, .int .i64 0]) 3 24 Tryz.underlying28 hi hz0 hz1 hz2 rfl (by decide) v l.length (encC l) hs hown ⟨b, 0, none⟩ m c (encC l2) hx (by rw [encC_length, hl2]) hnews (encC_one l2)
    (by simp only [maxLen]; omega) (by omega) hbase ?_
  intro v' w' h1 h2 _
  refine h v' w' ?_ ((Below.refl _ _).grown h2 hbase fun k hk => (World.ownsRow.lt hown k hk).1) (fun k hk hne => h2.block k hk (fun e => hne e.symm))
  unfold OwnC
  rw [encC_append, List.length_append, hl2]
  exact h1
theorem rc_one (w : World) (x y z : Int) : ∀ i, i < 1 → (w.alloc (.cells #[.int .i64 x, .int .i64 y, .int .i64 z] 64)).cell? ⟨w.heap.size, 0 + i * 3, none⟩ = some (.int .i64 (([(x, y, z)] : List M.Chg).getD i (0, 0, 0)).1) ∧ (w.alloc (.cells #[.int .i64 x, .int .i64 y, .int .i64 z] 64)).cell? ⟨w.heap.size, 0 + i * 3 + 1, none⟩ = some (.int .i64 (([(x, y, z)] : List M.Chg).getD i (0, 0, 0)).2.1) ∧ (w.alloc (.cells #[.int .i64 x, .int .i64 y, .int .i64 z] 64)).cell? ⟨w.heap.size, 0 + i * 3 + 2, none⟩ = some (.int .i64 (([(x, y, z)] : List M.Chg).getD i (0, 0, 0)).2.2) := by
  intro i hi
  obtain rfl : i = 0 := by omega
  refine ⟨?_, ?_, ?_⟩ <;> simp [go_sem]
theorem pnS_wrap (st : M.By × Bool) {n : Int} (h : M.inI n) : M.pnS true st (IntKind.i64.wrap (n + 1)) = M.pnS true st (n + 1) := by
  obtain ⟨h1, h2⟩ := h
  by_cases h3 : n = 9223372036854775807
  · subst h3
    have e : IntKind.i64.wrap (9223372036854775807 + 1) = -9223372036854775808 := by rw [IntKind.wrap_i64]; omega
    rw [e]
    unfold M.pnS M.pnB
    simp
  · have e : IntKind.i64.wrap (n + 1) = n + 1 := by rw [IntKind.wrap_i64]; omega
    rw [e]
theorem wC_wrap (st : M.By × Bool) (c : M.Chg) (h : M.inI c.2.1 ∧ M.inI c.2.2) : M.pnL true (M.pnL false st [c.1]) [IntKind.i64.wrap (c.2.1 + 1), IntKind.i64.wrap (c.2.2 + 1)] = M.wC st c := by
  show M.pnS true (M.pnS true _ _) _ = M.pnS true (M.pnS true _ _) _
  rw [pnS_wrap _ h.1, pnS_wrap _ h.2]
set_option maxRecDepth 100000 in
set_option maxHeartbeats 8000000 in
theorem write_any (x : M.Act) (a : Option Addr) (m cap : Nat) (w : World) (hrc : Rc w a m x.chs) (hm : m ≤ 9223372036854775807) (h1 : x.one.length ≤ 9223372036854775807) (h2 : x.two.length ≤ 9223372036854775807) (hrg : ∀ c ∈ x.chs, M.inI c.2.1 ∧ M.inI c.2.2) :
    Calls Tryz.prog 7 #[actV x a m cap] w fun e w' => e = .returned (.tuple #[.string (M.str (if (M.wA x).2 = true then [] else (M.wA x).1)), .int .i64 (if (M.wA x).2 = true then 3 else 0)]) ∧ Below w.heap.size w w' := by
  obtain ⟨p, hp⟩ : ∃ p, p = w.heap.size := ⟨_, rfl⟩
  obtain ⟨W1, hW1⟩ : ∃ W1, W1 = w.alloc (.cells #[.int .i64 x.kind, .string (M.str x.one), .string (M.str x.two), .slice a m cap] 30) := ⟨_, rfl⟩
  obtain ⟨W, hW⟩ : ∃ W, W = W1.alloc (.cells #[.slice none 0 0, .bool false] 69) := ⟨_, rfl⟩
  have hb1 : Below w.heap.size w W1 := by rw [hW1]; exact (Below.refl _ _).alloc (Nat.le_refl _) _
  have hb2 : Below W1.heap.size W1 W := by rw [hW]; exact (Below.refl _ _).alloc (Nat.le_refl _) _
  have hs1 : W1.heap.size = p + 1 := by rw [hW1, hp]; simp
  have hb : Below w.heap.size w W := hb1.trans (hb2.mono (by rw [hs1, hp]; omega))
  have HP0 : PenAt W (p + 1) (p + 1) [] false := by
    refine ⟨.slice none 0 0, ?_, Nat.le_refl _, ⟨rfl, Or.inl ⟨rfl, rfl⟩⟩⟩
    rw [hW, ← hs1]; exact heap_alloc_new _ _
  have hW10 : W1.heap[p]? = some (.cells #[.int .i64 x.kind, .string (M.str x.one), .string (M.str x.two), .slice a m cap] 30 (0, 0)) := by rw [hW1, hp]; exact heap_alloc_new _ _
  have HA : Hid (∀ V, Below (p + 1) W V → V.heap[p]? = some (.cells #[.int .i64 x.kind, .string (M.str x.one), .string (M.str x.two), .slice a m cap] 30 (0, 0))) := fun V hV => by
    rw [hV.block p (by omega), hb2.block p (by omega)]; exact hW10
  have hbp : ∀ V, Below (p + 1) W V → Below w.heap.size w V := fun V hV => hb.trans (hV.mono (by rw [← hp]; omega))
  have HRc : Hid (∀ V, Below (p + 1) W V → Rc V a m x.chs) := fun V hV => hrc.below (hbp V hV) (Nat.le_refl _)
  have HBp : Hid (∀ V, Below (p + 1) W V → Below w.heap.size w V) := hbp
  have HRg : Hid (∀ c ∈ x.chs, M.inI c.2.1 ∧ M.inI c.2.2) := hrg
  have HWn : Hid (∀ k, ((x.chs.take k).foldl M.wC (M.wA4 x)).1.length ≤ 10000) := M.wA_len x
  have hchl : x.chs.length = m := hrc.1
  have HLn : Aside (x.chs.length = m) := hchl
  have hl1 : (M.pnL false ([], false) [x.kind]).1.length ≤ 2 := M.pnL_len false ([], false) [x.kind]
  have hl2 := M.pnT_len (M.pnL false ([], false) [x.kind]) x.one
  have hl3 := M.pnT_len (M.pnT (M.pnL false ([], false) [x.kind]) x.one) x.two
  have H4 : Hid (M.wA4 x = M.pnL false (M.pnT (M.pnT (M.pnL false ([], false) [x.kind]) x.one) x.two) [(m : Int)]) := by rw [← hchl]; rfl
  have HWA : Hid (M.wA x = x.chs.foldl M.wC (M.wA4 x)) := rfl
  obtain ⟨s1, e1⟩ : ∃ s, s = M.pnL false ([], false) [x.kind] := ⟨_, rfl⟩
  obtain ⟨s2, e2⟩ : ∃ s, s = M.pnT s1 x.one := ⟨_, rfl⟩
  obtain ⟨s3, e3⟩ : ∃ s, s = M.pnT s2 x.two := ⟨_, rfl⟩
  rw [← e1] at hl1 hl2 hl3 H4
  rw [← e2] at hl2 hl3 H4
  rw [← e3] at hl3 H4
  have K1 := pbyte1_any (p + 1) (p + 1) [] false x.kind W HP0 (by simp)
  rw [← e1] at K1
  have K2 : ∀ V, PenAt V (p + 1) (p + 1) s1.1 s1.2 → Calls Tryz.prog 25 #[.pointer (some ⟨p + 1, 0, none⟩), .string (M.str x.one)] V fun e w' => (∃ v, e = .returned v) ∧ PenAt w' (p + 1) (p + 1) s2.1 s2.2 ∧ Below (p + 1) V w' ∧ Kp V w' := fun V hV => by
    rw [e2]; exact ptext_any (p + 1) (p + 1) s1.1 s1.2 x.one V hV h1 (by omega)
  have K3 : ∀ V, PenAt V (p + 1) (p + 1) s2.1 s2.2 → Calls Tryz.prog 25 #[.pointer (some ⟨p + 1, 0, none⟩), .string (M.str x.two)] V fun e w' => (∃ v, e = .returned v) ∧ PenAt w' (p + 1) (p + 1) s3.1 s3.2 ∧ Below (p + 1) V w' ∧ Kp V w' := fun V hV => by
    rw [e3]; exact ptext_any (p + 1) (p + 1) s2.1 s2.2 x.two V hV h2 (by omega)
  have K4 : ∀ V, PenAt V (p + 1) (p + 1) s3.1 s3.2 → Calls Tryz.prog 24 #[.pointer (some ⟨p + 1, 0, none⟩), .slice (some ⟨V.heap.size, 0, none⟩) 1 1] (V.alloc (.cells #[.int .i64 (m : Int)] 3)) fun e w' => (∃ v, e = .returned v) ∧ PenAt w' (p + 1) (p + 1) (M.wA4 x).1 (M.wA4 x).2 ∧ Below (p + 1) V w' ∧ Kp V w' := fun V hV => by
    rw [H4.out]; exact pbyte1_any (p + 1) (p + 1) s3.1 s3.2 m V hV (by omega)
  have HK1 : Hid (Calls Tryz.prog 24 #[.pointer (some ⟨p + 1, 0, none⟩), .slice (some ⟨W.heap.size, 0, none⟩) 1 1] (W.alloc (.cells #[.int .i64 x.kind] 3)) fun e w' => (∃ v, e = .returned v) ∧ PenAt w' (p + 1) (p + 1) s1.1 s1.2 ∧ Below (p + 1) W w' ∧ Kp W w') := K1
  have HK2 : Hid (∀ V, PenAt V (p + 1) (p + 1) s1.1 s1.2 → Calls Tryz.prog 25 #[.pointer (some ⟨p + 1, 0, none⟩), .string (M.str x.one)] V fun e w' => (∃ v, e = .returned v) ∧ PenAt w' (p + 1) (p + 1) s2.1 s2.2 ∧ Below (p + 1) V w' ∧ Kp V w') := K2
  have HK3 : Hid (∀ V, PenAt V (p + 1) (p + 1) s2.1 s2.2 → Calls Tryz.prog 25 #[.pointer (some ⟨p + 1, 0, none⟩), .string (M.str x.two)] V fun e w' => (∃ v, e = .returned v) ∧ PenAt w' (p + 1) (p + 1) s3.1 s3.2 ∧ Below (p + 1) V w' ∧ Kp V w') := K3
  have HK4 : Hid (∀ V, PenAt V (p + 1) (p + 1) s3.1 s3.2 → Calls Tryz.prog 24 #[.pointer (some ⟨p + 1, 0, none⟩), .slice (some ⟨V.heap.size, 0, none⟩) 1 1] (V.alloc (.cells #[.int .i64 (m : Int)] 3)) fun e w' => (∃ v, e = .returned v) ∧ PenAt w' (p + 1) (p + 1) (M.wA4 x).1 (M.wA4 x).2 ∧ Below (p + 1) V w' ∧ Kp V w') := K4
  have HW : Hid (W = (w.alloc (.cells #[.int .i64 x.kind, .string (M.str x.one), .string (M.str x.two), .slice a m cap] 30)).alloc (.cells #[.slice none 0 0, .bool false] 69)) := by rw [← hW1]; exact hW
  have hWs : W.heap.size = p + 1 + 1 := by rw [hW]; simp [hs1]
  rw [hWs] at HK1
  have HP : Aside (p = w.heap.size) := hp
  have blk := HA.out W (Below.refl _ _)
  have j0 : W.cell? ⟨p, 0, none⟩ = some (.int .i64 x.kind) := by rw [cell_of_row _ _ _ _ _ _ blk]; rfl
  rw [HW.out, HP.out] at j0
  obtain ⟨so8, hso8⟩ : ∃ so8, so8 = M.str (if (M.wA x).2 = true then [] else (M.wA x).1) := ⟨_, rfl⟩
  obtain ⟨e8, he8⟩ : ∃ e8 : Int, e8 = if (M.wA x).2 = true then 3 else 0 := ⟨_, rfl⟩
  rw [← hso8, ← he8]
  have H8 : Hid (so8 = M.str (if (M.wA x).2 = true then [] else (M.wA x).1)) := hso8
  have H9 : Hid (e8 = if (M.wA x).2 = true then 3 else 0) := he8
  unfold actV
  obtain ⟨kd, hkd⟩ : ∃ kd, kd = x.kind := ⟨_, rfl⟩
  obtain ⟨so, hso⟩ : ∃ so, so = M.str x.one := ⟨_, rfl⟩
  obtain ⟨st, hst⟩ : ∃ st, st = M.str x.two := ⟨_, rfl⟩
  rw [← hkd, ← hso, ← hst] at HA HW j0 ⊢
  rw [← hkd] at HK1
  rw [← hso] at HK2
  rw [← hst] at HK3
  clear hso8 he8 hkd hso hst blk K1 K2 K3 K4 e1 e2 e3 hl1 hl2 hl3 hrc hrg hchl hbp h1 h2 HP0 hW10 hW hW1 hb hb1 hb2 hs1 hp hWs
  go_enter Tryz.func7, Tryz.ntmps7
  go_wp2_with fail
  rw [← HW.out, ← HP.out]
  refine HK1.out.mono ?_
  rintro e w1 ⟨⟨v1, rfl⟩, q1, b1, _⟩
  have HQ1 : Hid (PenAt w1 (p + 1) (p + 1) s1.1 s1.2) := q1
  have blk := HA.out w1 b1
  clear j0
  have j1 : w1.cell? ⟨p, 1, none⟩ = some (.string so) := by rw [cell_of_row _ _ _ _ _ _ blk]; rfl
  clear blk q1
  go_wp2_with fail
  refine (HK2.out w1 HQ1.out).mono ?_
  rintro e w2 ⟨⟨v2, rfl⟩, q2, b2, _⟩
  have HQ2 : Hid (PenAt w2 (p + 1) (p + 1) s2.1 s2.2) := q2
  have c2 := b1.trans b2
  have blk := HA.out w2 c2
  clear j1
  have j2 : w2.cell? ⟨p, 2, none⟩ = some (.string st) := by rw [cell_of_row _ _ _ _ _ _ blk]; rfl
  clear blk q2 b1 b2
  go_wp2_with fail
  refine (HK3.out w2 HQ2.out).mono ?_
  rintro e w3 ⟨⟨v3, rfl⟩, q3, b3, _⟩
  have HQ3 : Hid (PenAt w3 (p + 1) (p + 1) s3.1 s3.2) := q3
  have c3 := c2.trans b3
  have blk := HA.out w3 c3
  clear j2
  have j3 : w3.cell? ⟨p, 3, none⟩ = some (.slice a m cap) := by rw [cell_of_row _ _ _ _ _ _ blk]; rfl
  clear blk q3 b3 c2
  go_wp2_with fail
  refine (HK4.out w3 HQ3.out).mono ?_
  rintro e w4 ⟨⟨v4, rfl⟩, q4, b4, _⟩
  have HQ4 : Aside (PenAt w4 (p + 1) (p + 1) (M.wA4 x).1 (M.wA4 x).2) := q4
  have c4 := c3.trans b4
  have blk := HA.out w4 c4
  clear j3
  have j4 : w4.cell? ⟨p, 3, none⟩ = some (.slice a m cap) := by rw [cell_of_row _ _ _ _ _ _ blk]; rfl
  clear blk q4 b4 c3 HK1 HK2 HK3 HK4
  go_wp2_with fail
  go_loopg [31] m (fun g i wr => ∃ k : Nat, k + g = m ∧ i = .int .i64 k ∧ Aside (PenAt wr (p + 1) (p + 1) ((x.chs.take k).foldl M.wC (M.wA4 x)).1 ((x.chs.take k).foldl M.wC (M.wA4 x)).2) ∧ Below (p + 1) W wr)
  case atStart => exact ⟨0, by omega, rfl, HQ4, c4⟩
  case round =>
    obtain ⟨k, hk, rfl, HPk, hbel⟩ := hrel
    clear j4
    by_cases hkm : k < m
    · have hki : (k : Int) < (m : Int) := by omega
      have hkn : k < x.chs.length := by rw [HLn.out]; exact hkm
      obtain ⟨ab, ao, rfl, hab, hc⟩ : ∃ ab ao, a = some ⟨ab, ao, none⟩ ∧ ab < wr.heap.size ∧ (wr.cell? ⟨ab, ao + k * 3, none⟩ = some (.int .i64 (x.chs.getD k (0, 0, 0)).1) ∧ wr.cell? ⟨ab, ao + k * 3 + 1, none⟩ = some (.int .i64 (x.chs.getD k (0, 0, 0)).2.1) ∧ wr.cell? ⟨ab, ao + k * 3 + 2, none⟩ = some (.int .i64 (x.chs.getD k (0, 0, 0)).2.2)) := by
        rcases (HRc.out wr hbel).cases with ⟨h0, _⟩ | ⟨ab, ao, e, _, _, hB, hc⟩
        · omega
        · exact ⟨ab, ao, e, hB, hc k hkm⟩
      have hmem : x.chs.getD k (0, 0, 0) ∈ x.chs := by
        have : x.chs.getD k (0, 0, 0) = x.chs[k] := by simp [List.getD, hkn]
        rw [this]; exact List.getElem_mem hkn
      have hst := M.wC_take (M.wA4 x) x.chs k hkn
      have hrg := HRg.out _ hmem
      obtain ⟨c, hcc⟩ : ∃ c, c = x.chs.getD k (0, 0, 0) := ⟨_, rfl⟩
      rw [← hcc] at hc hst hrg
      rw [← wC_wrap _ _ hrg] at hst
      obtain ⟨x0, x1, x2⟩ := c
      obtain ⟨ck, c1, c2⟩ := hc
      simp only at ck c1 c2 hst
      obtain ⟨z1, hz1⟩ : ∃ z, z = IntKind.i64.wrap (x1 + 1) := ⟨_, rfl⟩
      obtain ⟨z2, hz2⟩ : ∃ z, z = IntKind.i64.wrap (x2 + 1) := ⟨_, rfl⟩
      rw [← hz1, ← hz2] at hst
      have y1 : wrap64 (x1 + 1) = z1 := by rw [hz1]; exact (IntWalk.i64_left _).symm
      have y2 : wrap64 (x2 + 1) = z2 := by rw [hz2]; exact (IntWalk.i64_left _).symm
      have hlk : ((x.chs.take k).foldl M.wC (M.wA4 x)).1.length ≤ 10000 := HWn.out k
      generalize (x.chs.take k).foldl M.wC (M.wA4 x) = sk at *
      obtain ⟨lk, ok⟩ := sk
      simp only at hlk HPk
      obtain ⟨W5, hW5⟩ : ∃ W5, W5 = wr.alloc (.cells #[.int .i64 x0, .int .i64 x1, .int .i64 x2] 64) := ⟨_, rfl⟩
      have hb5 : Below wr.heap.size wr W5 := by rw [hW5]; exact (Below.refl _ _).alloc (Nat.le_refl _) _
      have h50 : W5.heap[wr.heap.size]? = some (.cells #[.int .i64 x0, .int .i64 x1, .int .i64 x2] 64 (0, 0)) := by rw [hW5]; exact heap_alloc_new _ _
      have HC5 : Hid (∀ V, Kp W5 V → V.heap[wr.heap.size]? = some (.cells #[.int .i64 x0, .int .i64 x1, .int .i64 x2] 64 (0, 0))) := fun V hV => hV _ _ _ (by decide) (by decide) h50
      have hbel5 : Below (p + 1) W W5 := hbel.trans (hb5.mono HPk.out.base)
      have hl5 := M.pnL_len false (lk, ok) [x0]
      have hw5s : W5.heap.size = wr.heap.size + 1 := by rw [hW5]; simp
      obtain ⟨s5, hs5⟩ : ∃ s, s = M.pnL false (lk, ok) [x0] := ⟨_, rfl⟩
      rw [← hs5] at hst hl5
      have K5 := pbyte1_any (p + 1) (p + 1) lk ok x0 W5 (HPk.out.later hb5) (by omega)
      rw [← hs5, hw5s] at K5
      have HK5 : Hid (Calls Tryz.prog 24 #[.pointer (some ⟨p + 1, 0, none⟩), .slice (some ⟨wr.heap.size + 1, 0, none⟩) 1 1] (W5.alloc (.cells #[.int .i64 x0] 3)) fun e w' => (∃ v, e = .returned v) ∧ PenAt w' (p + 1) (p + 1) s5.1 s5.2 ∧ Below (p + 1) W5 w' ∧ Kp W5 w') := K5
      have HK6 : Hid (∀ V, PenAt V (p + 1) (p + 1) s5.1 s5.2 → Calls Tryz.prog 26 #[.pointer (some ⟨p + 1, 0, none⟩), .slice (some ⟨V.heap.size, 0, none⟩) 2 2] (V.alloc (.cells #[.int .i64 z1, .int .i64 z2] 3)) fun e w' => (∃ v, e = .returned v) ∧ PenAt w' (p + 1) (p + 1) (M.pnL true s5 [z1, z2]).1 (M.pnL true s5 [z1, z2]).2 ∧ Below (p + 1) V w' ∧ Kp V w') := fun V hV =>
        ppair2_any (p + 1) (p + 1) s5.1 s5.2 _ _ V hV (by simp at hl5; omega)
      have HSt : Hid ((x.chs.take (k + 1)).foldl M.wC (M.wA4 x) = M.pnL true s5 [z1, z2]) := hst
      have d0 : W5.cell? ⟨wr.heap.size, 0, none⟩ = some (.int .i64 x0) := by rw [cell_of_row _ _ _ _ _ _ h50]; rfl
      have HW5 : Hid (W5 = wr.alloc (.cells #[.int .i64 x0, .int .i64 x1, .int .i64 x2] 64)) := hW5
      rw [hW5] at d0
      clear hz1 hz2 hst hs5 hcc hl5 K5 h50 hb5 hW5 hmem hrg hw5s hlk
      go_wp2_with fail
      rw [← HW5.out]
      refine HK5.out.mono ?_
      rintro e w6 ⟨⟨v6, rfl⟩, q6, b6, k6⟩
      have blk := HC5.out w6 k6
      have d1 : w6.cell? ⟨wr.heap.size, 1, none⟩ = some (.int .i64 x1) := by rw [cell_of_row _ _ _ _ _ _ blk]; rfl
      have d2 : w6.cell? ⟨wr.heap.size, 2, none⟩ = some (.int .i64 x2) := by rw [cell_of_row _ _ _ _ _ _ blk]; rfl
      have HQ6 : Hid (PenAt w6 (p + 1) (p + 1) s5.1 s5.2) := q6
      have c6 := hbel5.trans b6
      clear blk q6 b6 k6 ck c1 c2 d0
      go_wp2_with fail
      refine (HK6.out w6 HQ6.out).mono ?_
      rintro e w7 ⟨⟨v7, rfl⟩, q7, b7, _⟩
      rw [← HSt.out] at q7
      have HQ7 : Aside (PenAt w7 (p + 1) (p + 1) ((x.chs.take (k + 1)).foldl M.wC (M.wA4 x)).1 ((x.chs.take (k + 1)).foldl M.wC (M.wA4 x)).2) := q7
      have c7 := c6.trans b7
      clear q7 b7 d1 d2 HK5 HK6
      go_wp2
      go_roundg (gk - 1)
      case measure => omega
      case rel => exact ⟨k + 1, by omega, by go_num, HQ7, c7⟩
    · obtain rfl : k = m := by omega
      have hkk2 : decide ((k : Int) < (k : Int)) = false := by simp
      have e1 : x.chs.take k = x.chs := List.take_of_length_le (by rw [HLn.out]; exact Nat.le_refl _)
      have K8 := written_any (p + 1) (p + 1) _ _ wr HPk.out
      rw [e1, ← HWA.out] at K8
      rw [← H8.out, ← H9.out] at K8
      have HK8 : Hid (Calls Tryz.prog 27 #[.pointer (some ⟨p + 1, 0, none⟩)] wr fun e w' => e = .returned (.tuple #[.string so8, .int .i64 e8]) ∧ Below wr.heap.size wr w') := K8
      have hpb : p + 1 ≤ wr.heap.size := HPk.out.base
      clear e1 K8
      go_wp2_with fail
      refine HK8.out.mono ?_
      rintro e w9 ⟨rfl, b9⟩
      have c9 := HBp.out _ (hbel.trans (b9.mono hpb))
      clear b9
      go_wp2
      go_ret2
      exact ⟨rfl, c9⟩
def But (b : Nat) (w w' : World) : Prop := w.grownBy w' (some b)
theorem But.refl (b : Nat) (w : World) : But b w w := ⟨rfl, rfl, rfl, Nat.le_refl _, fun _ _ _ => rfl⟩
theorem But.trans {b : Nat} {w1 w2 w3 : World} (h : But b w1 w2) (k : But b w2 w3) : But b w1 w3 :=
  ⟨k.os.trans h.os, k.tape.trans h.tape, k.output.trans h.output, Nat.le_trans h.size k.size, fun i hi hne => (k.block i (Nat.lt_of_lt_of_le hi h.size) hne).trans (h.block i hi hne)⟩
theorem But.below {b : Nat} {w w' : World} (h : But b w w') (hb : b ≤ w.heap.size) : Below b w w' := ⟨h.os, h.tape, h.output, h.size, fun k hk => h.block k (by omega) (fun e => by cases e; omega)⟩
theorem But.of {b : Nat} {w w' : World} (h : Below w.heap.size w w') : But b w w' := ⟨h.os, h.tape, h.output, h.size, fun k hk _ => h.block k hk⟩
theorem But.set (b o : Nat) (w : World) (v : Value) : But b w (w.setCell ⟨b, o, none⟩ v) := grownBy_set w ⟨b, o, none⟩ v
def RdAt (w : World) (b : Nat) (l : M.By) : Prop := w.heap[b]? = some (.cells #[.string (M.str l)] 101 (0, 0)) ∧ l.length ≤ 9223372036854775807
theorem RdAt.cell {w : World} {b : Nat} {l : M.By} (h : RdAt w b l) : w.cell? ⟨b, 0, none⟩ = some (.string (M.str l)) := by rw [cell_of_row _ _ _ _ _ _ h.1]; rfl
theorem RdAt.fr {w : World} {b : Nat} {l : M.By} (h : RdAt w b l) : w.frozen? ⟨b, 0, none⟩ = false := frozen_of_row _ _ _ _ _ h.1
theorem RdAt.lt {w : World} {b : Nat} {l : M.By} (h : RdAt w b l) : b < w.heap.size := (Array.getElem?_eq_some_iff.1 h.1).1
theorem RdAt.set {w : World} {b : Nat} {l : M.By} (h : RdAt w b l) (l' : M.By) (hl : l'.length ≤ l.length) : RdAt (w.setCell ⟨b, 0, none⟩ (.string (M.str l'))) b l' := ⟨by rw [heap_setCell_same _ _ _ _ _ _ h.1]; rfl, by have := h.2; omega⟩
theorem RdAt.later {w w' : World} {b : Nat} {l : M.By} (h : RdAt w b l) (hb : Below w.heap.size w w') : RdAt w' b l := ⟨(hb.block b h.lt).trans h.1, h.2⟩
def early : Ending := .panicked [{ v := .iface 25 (.int .i64 1), recovered := false }]
set_option maxHeartbeats 2000000 in
theorem take_any (b n : Nat) (l : M.By) (w : World) (h : RdAt w b l) :
    Calls Tryz.prog 107 #[.pointer (some ⟨b, 0, none⟩), .int .i64 (n : Int)] w fun e w' => But b w w' ∧ ((n ≤ l.length ∧ e = .returned (.string (M.str (l.take n))) ∧ RdAt w' b (l.drop n)) ∨ (l.length < n ∧ e = early)) := by
  obtain ⟨s, hs⟩ : ∃ s, s = M.str l := ⟨_, rfl⟩
  obtain ⟨m, hm⟩ : ∃ m, m = l.length := ⟨_, rfl⟩
  have hsz : s.size = m := by rw [hs, M.str_size, hm]
  have c0 := h.cell
  have f0 := h.fr
  rw [← hs] at c0
  by_cases hn : n ≤ l.length
  · have e1 : s.extract 0 n = M.str (l.take n) := by rw [hs, M.str_take]
    have e2 : s.extract n m = M.str (l.drop n) := by rw [hs, M.str_drop l n m hm]
    have h1 : decide ((m : Int) < (n : Int)) = false := by simp; omega
    have h2 : (n : Int) ≤ (m : Int) := by omega
    have HR : Hid (RdAt (w.setCell ⟨b, 0, none⟩ (.string (M.str (l.drop n)))) b (l.drop n)) := h.set _ (by simp)
    have HN : Hid (n ≤ l.length) := hn
    clear h hs hm hn
    go_enter Tryz.func107, Tryz.ntmps107
    go_wp2
    go_ret
    exact ⟨But.set _ _ _ _, Or.inl ⟨HN.out, rfl, HR.out⟩⟩
  · have h1 : decide ((m : Int) < (n : Int)) = true := by simp; omega
    have h2 : (m : Int) < (n : Int) := by omega
    have HN : Hid (l.length < n) := by unfold Hid; omega
    clear h hs hm hn
    go_enter Tryz.func107, Tryz.ntmps107
    go_wp2
    exact ⟨rfl, But.refl _ _, Or.inr ⟨HN.out, rfl⟩⟩
def Reads {α : Type} (b : Nat) (w w' : World) (r : Option (α × M.By)) (val : α → Value → World → Prop) (e : Ending) : Prop :=
  But b w w' ∧ ((∃ x t v, r = some (x, t) ∧ e = .returned v ∧ val x v w' ∧ RdAt w' b t) ∨ (r = none ∧ e = early))
def isInt (k : Int) (v : Value) (_ : World) : Prop := v = .int .i64 k
def isStr (l : M.By) (v : Value) (_ : World) : Prop := v = .string (M.str l)
set_option maxHeartbeats 2000000 in
theorem byte_any (b : Nat) (l : M.By) (w : World) (h : RdAt w b l) :
    Calls Tryz.prog 63 #[.pointer (some ⟨b, 0, none⟩)] w fun e w' => Reads b w w' (M.rB l) isInt e := by
  have K : Hid (Calls Tryz.prog 107 #[.pointer (some ⟨b, 0, none⟩), .int .i64 1] w fun e w' => But b w w' ∧ ((1 ≤ l.length ∧ e = .returned (.string (M.str (l.take 1))) ∧ RdAt w' b (l.drop 1)) ∨ (l.length < 1 ∧ e = early))) := take_any b 1 l w h
  clear h
  cases l with
  | nil =>
    go_enter Tryz.func63, Tryz.ntmps63
    go_wp2_with fail
    refine K.out.mono ?_
    rintro e w1 ⟨hb, ⟨h1, _⟩ | ⟨_, rfl⟩⟩
    · simp at h1
    · unfold early
      go_wp2
      exact ⟨rfl, hb, Or.inr ⟨rfl, rfl⟩⟩
  | cons x t =>
    have e1 : M.str ((x :: t).take 1) = ⟨#[x]⟩ := rfl
    rw [e1] at K
    have hx : wrap64 (x.toNat : Int) = (x.toNat : Int) := by have := x.toNat_lt; unfold wrap64; omega
    have HX : Hid (wrap64 (x.toNat : Int) = (x.toNat : Int)) := hx
    clear hx
    go_enter Tryz.func63, Tryz.ntmps63
    go_wp2_with fail
    refine K.out.mono ?_
    rintro e w1 ⟨hb, ⟨_, rfl, hr⟩ | ⟨h1, _⟩⟩
    · have HR : Hid (RdAt w1 b t) := hr
      clear hr
      go_wp2
      go_ret
      exact ⟨hb, Or.inl ⟨_, t, _, rfl, rfl, congrArg (Value.int .i64) HX.out, HR.out⟩⟩
    · simp at h1
theorem M.rB_range {l t : M.By} {k : Int} (h : M.rB l = some (k, t)) : 0 ≤ k ∧ k < 256 := (M.rB_inv h).2
theorem M.r2_yes {l t u : M.By} {k j : Int} (h : M.rB l = some (k, t)) (h2 : M.rB t = some (j, u)) : M.r2 l = some (256 * k + j, u) := by
  match l, t, h, h2 with
  | x :: y :: v, _, h, h2 =>
    simp only [M.rB, Option.some.injEq, Prod.mk.injEq] at h
    obtain ⟨rfl, rfl⟩ := h
    simp only [M.rB, Option.some.injEq, Prod.mk.injEq] at h2
    obtain ⟨rfl, rfl⟩ := h2
    rfl
  | [x], _, h, h2 =>
    simp only [M.rB, Option.some.injEq, Prod.mk.injEq] at h
    obtain ⟨rfl, rfl⟩ := h
    simp [M.rB] at h2
  | [], _, h, _ => simp [M.rB] at h
theorem M.r2_no1 {l : M.By} (h : M.rB l = none) : M.r2 l = none := by
  cases l with
  | nil => rfl
  | cons x t => simp [M.rB] at h
theorem M.r2_no2 {l t : M.By} {k : Int} (h : M.rB l = some (k, t)) (h2 : M.rB t = none) : M.r2 l = none := by
  match l, h with
  | x :: y :: v, h =>
    simp only [M.rB, Option.some.injEq, Prod.mk.injEq] at h
    obtain ⟨rfl, rfl⟩ := h
    simp [M.rB] at h2
  | [x], _ => rfl
  | [], h => simp [M.rB] at h
theorem M.rT_yes {l t : M.By} {k : Int} (h : M.rB l = some (k, t)) : M.rT l = if k.toNat ≤ t.length then some (t.take k.toNat, t.drop k.toNat) else none := by
  cases l with
  | nil => simp [M.rB] at h
  | cons x u =>
    simp only [M.rB, Option.some.injEq, Prod.mk.injEq] at h
    obtain ⟨rfl, rfl⟩ := h
    rfl
theorem M.rT_no {l : M.By} (h : M.rB l = none) : M.rT l = none := by
  cases l with
  | nil => rfl
  | cons x t => simp [M.rB] at h
set_option maxHeartbeats 2000000 in
theorem pair_any (b : Nat) (l : M.By) (w : World) (h : RdAt w b l) :
    Calls Tryz.prog 108 #[.pointer (some ⟨b, 0, none⟩)] w fun e w' => Reads b w w' (M.r2 l) isInt e := by
  have K : Hid (Calls Tryz.prog 63 #[.pointer (some ⟨b, 0, none⟩)] w fun e w' => Reads b w w' (M.rB l) isInt e) := byte_any b l w h
  clear h
  go_enter Tryz.func108, Tryz.ntmps108
  go_wp2_with fail
  refine K.out.mono ?_
  rintro e w1 ⟨hb, ⟨k, t, v, h1, rfl, rfl, hr⟩ | ⟨h1, rfl⟩⟩
  · have K2 : Hid (Calls Tryz.prog 63 #[.pointer (some ⟨b, 0, none⟩)] w1 fun e w' => Reads b w1 w' (M.rB t) isInt e) := byte_any b t w1 hr
    have H1 : Hid (M.rB l = some (k, t)) := h1
    have hk := M.rB_range h1
    have hw : IntKind.i64.wrap (256 * k) = 256 * k := by rw [IntKind.wrap_i64]; omega
    clear h1 hr K
    go_wp2_with fail
    refine K2.out.mono ?_
    rintro e w2 ⟨hb2, ⟨j, u, v, h2, rfl, rfl, hr⟩ | ⟨h2, rfl⟩⟩
    · have H2 : Hid (M.rB t = some (j, u)) := h2
      have HR : Hid (RdAt w2 b u) := hr
      have hj := M.rB_range h2
      have hw2 : IntKind.i64.wrap (256 * k + j) = 256 * k + j := by rw [IntKind.wrap_i64]; omega
      clear h2 hr K2
      go_wp2
      go_ret
      exact ⟨hb.trans hb2, Or.inl ⟨_, u, _, M.r2_yes H1.out H2.out, rfl, rfl, HR.out⟩⟩
    · have H2 : Hid (M.rB t = none) := h2
      clear h2 K2
      unfold early
      go_wp2
      exact ⟨rfl, hb.trans hb2, Or.inr ⟨M.r2_no2 H1.out H2.out, rfl⟩⟩
  · have H1 : Hid (M.rB l = none) := h1
    clear h1 K
    unfold early
    go_wp2
    exact ⟨rfl, hb, Or.inr ⟨M.r2_no1 H1.out, rfl⟩⟩
set_option maxHeartbeats 2000000 in
theorem text_any (b : Nat) (l : M.By) (w : World) (h : RdAt w b l) :
    Calls Tryz.prog 64 #[.pointer (some ⟨b, 0, none⟩)] w fun e w' => Reads b w w' (M.rT l) isStr e := by
  have K : Hid (Calls Tryz.prog 63 #[.pointer (some ⟨b, 0, none⟩)] w fun e w' => Reads b w w' (M.rB l) isInt e) := byte_any b l w h
  clear h
  go_enter Tryz.func64, Tryz.ntmps64
  go_wp2_with fail
  refine K.out.mono ?_
  rintro e w1 ⟨hb, ⟨k, t, v, h1, rfl, rfl, hr⟩ | ⟨h1, rfl⟩⟩
  · have hk := M.rB_range h1
    obtain ⟨n, rfl⟩ : ∃ n : Nat, k = (n : Int) := ⟨k.toNat, by omega⟩
    have K2 : Hid (Calls Tryz.prog 107 #[.pointer (some ⟨b, 0, none⟩), .int .i64 (n : Int)] w1 fun e w' => But b w1 w' ∧ ((n ≤ t.length ∧ e = .returned (.string (M.str (t.take n))) ∧ RdAt w' b (t.drop n)) ∨ (t.length < n ∧ e = early))) := take_any b n t w1 hr
    have H1 : Hid (M.rT l = if n ≤ t.length then some (t.take n, t.drop n) else none) := M.rT_yes h1
    clear h1 hr K
    go_wp2_with fail
    refine K2.out.mono ?_
    rintro e w2 ⟨hb2, ⟨h2, rfl, hr⟩ | ⟨h2, rfl⟩⟩
    · have HR : Hid (RdAt w2 b (t.drop n)) := hr
      have H2 : Hid (n ≤ t.length) := h2
      clear h2 hr K2
      go_wp2
      go_ret
      exact ⟨hb.trans hb2, Or.inl ⟨_, _, _, by rw [H1.out, if_pos H2.out], rfl, rfl, HR.out⟩⟩
    · have H2 : Hid (t.length < n) := h2
      clear h2 K2
      unfold early
      go_wp2
      exact ⟨rfl, hb.trans hb2, Or.inr ⟨by rw [H1.out, if_neg (by have := H2.out; omega)], rfl⟩⟩
  · have H1 : Hid (M.rB l = none) := h1
    clear h1 K
    unfold early
    go_wp2
    exact ⟨rfl, hb, Or.inr ⟨M.rT_no H1.out, rfl⟩⟩
theorem But.alloc (b : Nat) (w : World) (o : Obj) : But b w (w.alloc o) := But.of ((Below.refl _ _).alloc (Nat.le_refl _) _)
theorem But.setNew {b R o : Nat} {w w1 : World} (h : But b w w1) (hR : w.heap.size ≤ R) (v : Value) : But b w (w1.setCell ⟨R, o, none⟩ v) :=
  ⟨h.os, h.tape, h.output, by simpa [World.setCell] using h.size, fun k hk hne => by rw [heap_setCell_other _ _ _ _ (by show k ≠ R; omega)]; exact h.block k hk hne⟩
theorem RdAt.other {w : World} {b R o : Nat} {l : M.By} (h : RdAt w b l) (hR : b ≠ R) (v : Value) : RdAt (w.setCell ⟨R, o, none⟩ v) b l := ⟨by rw [heap_setCell_other _ _ _ _ hR]; exact h.1, h.2⟩
theorem ownsRow_but {w w' : World} {b base : Nat} {e : TypeId} {size : Nat} {v : Value} {n : Nat} {xs : List Value} (h : w.ownsRow base e size v n xs) (hb : But b w w') (hlt : b < base) : w'.ownsRow base e size v n xs := by
  obtain ⟨h1, h2⟩ := h
  refine ⟨h1, ?_⟩
  rcases h2 with h2 | ⟨g, cap, cur, hv, hg, hh, r⟩
  · exact Or.inl h2
  · exact Or.inr ⟨g, cap, cur, hv, hg, (hb.block g (Array.getElem?_eq_some_iff.1 hh).1 (fun e => by cases e; omega)).trans hh, r⟩
theorem But.then {b : Nat} {w w1 w2 : World} (h : But b w w1) (k : Below w.heap.size w1 w2) : But b w w2 :=
  ⟨k.os.trans h.os, k.tape.trans h.tape, k.output.trans h.output, Nat.le_trans h.size k.size, fun i hi hne => (k.block i hi).trans (h.block i hi hne)⟩
theorem RdAt.keep {w w' : World} {b B : Nat} {l : M.By} (h : RdAt w b l) (hb : Below B w w') (hlt : b < B) : RdAt w' b l := ⟨(hb.block b hlt).trans h.1, h.2⟩
theorem M.r2_range {l t : M.By} {k : Int} (h : M.r2 l = some (k, t)) : 0 ≤ k ∧ k < 65536 := (M.r2_inv h).2
def isChg (c : M.Chg) (v : Value) (_ : World) : Prop := v = cval c
theorem M.rC_at {l l1 : M.By} {k : Int} (h : M.rB l = some (k, l1)) : M.rC l = (match M.r2 l1 with | none => none | some (o, l2) => match M.r2 l2 with | none => none | some (n, l3) => some ((k, o - 1, n - 1), l3)) := by
  unfold M.rC; rw [h]; rfl
theorem M.rC_no {l : M.By} (h : M.rB l = none) : M.rC l = none := by unfold M.rC; rw [h]
set_option maxRecDepth 100000 in
set_option maxHeartbeats 4000000 in
theorem rchange_any (b : Nat) (l : M.By) (w : World) (h : RdAt w b l) :
    Calls Tryz.prog 66 #[.pointer (some ⟨b, 0, none⟩)] w fun e w' => Reads b w w' (M.rC l) isChg e := by
  obtain ⟨R, hR⟩ : ∃ R, R = w.heap.size := ⟨_, rfl⟩
  obtain ⟨W, hW⟩ : ∃ W, W = w.alloc (.cells #[.int .i64 0, .int .i64 0, .int .i64 0] 64) := ⟨_, rfl⟩
  have hb0 : But b w W := by rw [hW]; exact But.alloc _ _ _
  have q0 : W.heap[R]? = some (.cells #[.int .i64 0, .int .i64 0, .int .i64 0] 64 (0, 0)) := by rw [hW, hR]; exact heap_alloc_new _ _
  have hlt := h.lt
  have hW0 : RdAt W b l := h.later (by rw [hW]; exact (Below.refl _ _).alloc (Nat.le_refl _) _)
  have hbR : b ≠ R := by omega
  have HBR : Aside (b ≠ R) := hbR
  have K : Hid (Calls Tryz.prog 63 #[.pointer (some ⟨b, 0, none⟩)] W fun e w' => Reads b W w' (M.rB l) isInt e) := byte_any b l W hW0
  have HQ : Hid (W.heap[R]? = some (.cells #[.int .i64 0, .int .i64 0, .int .i64 0] 64 (0, 0))) := q0
  have HW : Hid (W = w.alloc (.cells #[.int .i64 0, .int .i64 0, .int .i64 0] 64)) := hW
  have HR : Aside (R = w.heap.size) := hR
  clear h hW hR q0 hW0 hlt hbR
  go_enter Tryz.func66, Tryz.ntmps66
  go_wp2_with fail
  rw [← HW.out, ← HR.out]
  refine K.out.mono ?_
  rintro e w1 ⟨hb1, ⟨k, l1, v, h1, rfl, rfl, hr⟩ | ⟨h1, rfl⟩⟩
  case inr =>
    have H1 : Hid (M.rB l = none) := h1
    clear h1 K
    unfold early
    go_wp2
    exact ⟨rfl, hb0.trans hb1, Or.inr ⟨M.rC_no H1.out, rfl⟩⟩
  have H1 : Hid (M.rC l = (match M.r2 l1 with | none => none | some (o, l2) => match M.r2 l2 with | none => none | some (n, l3) => some ((k, o - 1, n - 1), l3))) := M.rC_at h1
  have K2 : Hid (Calls Tryz.prog 108 #[.pointer (some ⟨b, 0, none⟩)] w1 fun e w' => Reads b w1 w' (M.r2 l1) isInt e) := pair_any b l1 w1 hr
  have hc1 := hb0.trans hb1
  clear h1 hr K
  go_wp2_with fail
  refine K2.out.mono ?_
  rintro e w2 ⟨hb2, ⟨o, l2, v, h2, rfl, rfl, hr⟩ | ⟨h2, rfl⟩⟩
  case inr =>
    have H2 : Hid (M.r2 l1 = none) := h2
    clear h2 K2
    unfold early
    go_wp2
    exact ⟨rfl, hc1.trans hb2, Or.inr ⟨by rw [H1.out, H2.out], rfl⟩⟩
  have ho := M.r2_range h2
  have hw1 : IntKind.i64.wrap (o - 1) = o - 1 := by rw [IntKind.wrap_i64]; omega
  have H2 : Hid (M.r2 l1 = some (o, l2)) := h2
  have K3 : Hid (Calls Tryz.prog 108 #[.pointer (some ⟨b, 0, none⟩)] w2 fun e w' => Reads b w2 w' (M.r2 l2) isInt e) := pair_any b l2 w2 hr
  have hc2 := hc1.trans hb2
  clear h2 hr K2
  go_wp2_with fail
  refine K3.out.mono ?_
  rintro e w3 ⟨hb3, ⟨n, l3, v, h3, rfl, rfl, hr⟩ | ⟨h3, rfl⟩⟩
  case inr =>
    have H3 : Hid (M.r2 l2 = none) := h3
    clear h3 K3
    unfold early
    go_wp2
    exact ⟨rfl, hc2.trans hb3, Or.inr ⟨by rw [H1.out, H2.out]; simp only; rw [H3.out], rfl⟩⟩
  have hn := M.r2_range h3
  have hw2 : IntKind.i64.wrap (n - 1) = n - 1 := by rw [IntKind.wrap_i64]; omega
  have H3 : Hid (M.r2 l2 = some (n, l3)) := h3
  have hc3 := hc2.trans hb3
  have q3 : w3.heap[R]? = some (.cells #[.int .i64 0, .int .i64 0, .int .i64 0] 64 (0, 0)) := (((hb1.trans hb2).trans hb3).block R (Array.getElem?_eq_some_iff.1 HQ.out).1 (fun e => HBR.out (Option.some.inj e).symm)).trans HQ.out
  have y0 : w3.cell? ⟨R, 0, none⟩ = some (.int .i64 0) := by rw [cell_of_row _ _ _ _ _ _ q3]; rfl
  have y1 : w3.cell? ⟨R, 1, none⟩ = some (.int .i64 0) := by rw [cell_of_row _ _ _ _ _ _ q3]; rfl
  have y2 : w3.cell? ⟨R, 2, none⟩ = some (.int .i64 0) := by rw [cell_of_row _ _ _ _ _ _ q3]; rfl
  have f0 : w3.frozen? ⟨R, 0, none⟩ = false := frozen_of_row _ _ _ _ _ q3
  have f1 : w3.frozen? ⟨R, 1, none⟩ = false := frozen_of_row _ _ _ _ _ q3
  have f2 : w3.frozen? ⟨R, 2, none⟩ = false := frozen_of_row _ _ _ _ _ q3
  obtain ⟨X, hX⟩ : ∃ X, X = ((w3.setCell ⟨R, 0, none⟩ (.int .i64 k)).setCell ⟨R, 1, none⟩ (.int .i64 (o - 1))).setCell ⟨R, 2, none⟩ (.int .i64 (n - 1)) := ⟨_, rfl⟩
  have qX : X.heap[R]? = some (.cells #[.int .i64 k, .int .i64 (o - 1), .int .i64 (n - 1)] 64 (0, 0)) := by
    rw [hX, heap_setCell_same _ _ _ _ _ _ (heap_setCell_same _ _ _ _ _ _ (heap_setCell_same _ _ _ _ _ _ q3))]; rfl
  have HX : Hid (X = ((w3.setCell ⟨R, 0, none⟩ (.int .i64 k)).setCell ⟨R, 1, none⟩ (.int .i64 (o - 1))).setCell ⟨R, 2, none⟩ (.int .i64 (n - 1))) := hX
  have HRX : Hid (RdAt X b l3) := by unfold Hid; rw [hX]; exact ((hr.other HBR.out _).other HBR.out _).other HBR.out _
  have HBX : Hid (But b w X) := by unfold Hid; rw [hX]; exact ((hc3.setNew (Nat.le_of_eq HR.out.symm) _).setNew (Nat.le_of_eq HR.out.symm) _).setNew (Nat.le_of_eq HR.out.symm) _
  have HX0 : Aside (X.cell? ⟨R, 0, none⟩ = some (.int .i64 k) ∧ X.cell? ⟨R, 1, none⟩ = some (.int .i64 (o - 1)) ∧ X.cell? ⟨R, 2, none⟩ = some (.int .i64 (n - 1))) := ⟨by rw [cell_of_row _ _ _ _ _ _ qX]; rfl, by rw [cell_of_row _ _ _ _ _ _ qX]; rfl, by rw [cell_of_row _ _ _ _ _ _ qX]; rfl⟩
  clear h3 hr K3 q3 qX hX
  go_wp2
  rw [← HX.out]
  obtain ⟨z0, z1, z2⟩ := HX0.out
  refine bodyPost_ret (v := .agg #[.int .i64 k, .int .i64 (o - 1), .int .i64 (n - 1)]) (by simp [results, Tryz.results66, go_sem, z0, z1, z2]) rfl ?_
  exact ⟨HBX.out, Or.inl ⟨(k, o - 1, n - 1), l3, _, by rw [H1.out, H2.out]; simp only; rw [H3.out], rfl, rfl, HRX.out⟩⟩
def isChgs (base : Nat) (xs : List M.Chg) (v : Value) (w : World) : Prop := OwnC w base v xs
set_option maxRecDepth 100000 in
set_option maxHeartbeats 4000000 in
theorem lchange_any (b : Nat) (l : M.By) (w : World) (h : RdAt w b l) :
    Calls Tryz.prog 65 #[.pointer (some ⟨b, 0, none⟩), .func (.func 66) #[] #[]] w fun e w' => Reads b w w' (M.rL M.rC l) (isChgs w.heap.size) e := by
  have K : Hid (Calls Tryz.prog 63 #[.pointer (some ⟨b, 0, none⟩)] w fun e w' => Reads b w w' (M.rB l) isInt e) := byte_any b l w h
  have hlt := h.lt
  clear h
  go_enter Tryz.func65, Tryz.ntmps65
  go_wp2_with fail
  refine K.out.mono ?_
  rintro e w1 ⟨hb1, ⟨k, l1, v, h1, rfl, rfl, hr⟩ | ⟨h1, rfl⟩⟩
  case inr =>
    have H1 : Hid (M.rB l = none) := h1
    clear h1 K
    unfold early
    go_wp2
    exact ⟨rfl, hb1, Or.inr ⟨by unfold M.rL; rw [H1.out], rfl⟩⟩
  have hk := M.rB_range h1
  obtain ⟨n, rfl⟩ : ∃ n : Nat, k = (n : Int) := ⟨k.toNat, by omega⟩
  have H1 : Hid (M.rL M.rC l = M.rN M.rC n l1) := by unfold Hid M.rL; rw [h1]; rfl
  have hn : n < 256 := by omega
  have HR0 : Aside (RdAt w1 b l1) := hr
  clear h1 hr K hk
  go_wp2_with fail
  go_loopg [8, 5] n (fun g i v wr => ∃ (k : Nat) (xs : List M.Chg) (t : M.By), k + g = n ∧ i = .int .i64 k ∧ Aside (M.rN M.rC k l1 = some (xs, t)) ∧ Aside (xs.length = k) ∧ Aside (OwnC wr w.heap.size v xs) ∧ Aside (RdAt wr b t) ∧ But b w wr)
  case atStart => exact ⟨0, [], l1, by omega, rfl, rfl, rfl, OwnC.nil _ _, HR0, hb1⟩
  case round =>
    obtain ⟨k, xs, t, hkg, rfl, HN, HL, HO, HRt, hbw⟩ := hrel
    by_cases hkn : k < n
    · have hki : (k : Int) < (n : Int) := by omega
      have K2 : Hid (Calls Tryz.prog 66 #[.pointer (some ⟨b, 0, none⟩)] wr fun e w' => Reads b wr w' (M.rC t) isChg e) := rchange_any b t wr HRt.out
      go_wp2_with fail
      refine K2.out.mono ?_
      rintro e w2 ⟨hb2, ⟨c, t2, v, h2, rfl, rfl, hr⟩ | ⟨h2, rfl⟩⟩
      · have HN2 : Aside (M.rN M.rC (k + 1) l1 = some (xs ++ [c], t2)) := by unfold Aside; rw [M.rN_snoc, HN.out]; simp only; rw [h2]
        have HL2 : Aside ((xs ++ [c]).length = k + 1) := by unfold Aside; rw [List.length_append, HL.out]; rfl
        obtain ⟨c0, c1, c2⟩ := c
        have hs2 : w.heap.size ≤ w2.heap.size := (hbw.trans hb2).size
        have HOA : Hid (OwnC (w2.alloc (.cells #[.int .i64 c0, .int .i64 c1, .int .i64 c2] 64)) w.heap.size u5 xs) := World.ownsRow.alloc (ownsRow_but HO.out hb2 hlt) _
        have HR2 : Hid (RdAt w2 b t2) := hr
        have hbig : xs.length + 1 ≤ 1000000 := by rw [HL.out]; omega
        clear h2 hr K2
        unfold cval
        go_wp2_with (at_builtin; refine append_rc rfl _ _ rfl w.heap.size _ xs rfl HOA.out w2.heap.size 1 1 [(c0, c1, c2)] rfl rfl (rc_one w2 _ _ _) hbig (by simp; omega) ?_)
        intro v' w3 ho' hb4 _
        have qb3 : Below w.heap.size w2 w3 := ((Below.refl _ _).alloc hs2 _).trans hb4
        have HO3 : Aside (OwnC w3 w.heap.size v' (xs ++ [(c0, c1, c2)])) := ho'
        have HR3 : Aside (RdAt w3 b t2) := HR2.out.keep qb3 hlt
        have hbw3 : But b w w3 := (hbw.trans hb2).then qb3
        clear ho' hb4 HOA qb3
        go_wp2
        go_roundg (gk - 1)
        case measure => omega
        case rel => exact ⟨k + 1, _, t2, by omega, by go_num, HN2, HL2, HO3, HR3, hbw3⟩
      · have H2 : Hid (M.rN M.rC n l1 = none) := by
          have : M.rN M.rC (k + 1) l1 = none := by rw [M.rN_snoc, HN.out]; simp only; rw [h2]
          exact M.rN_none _ _ _ _ this (by omega)
        clear h2 K2
        unfold early
        go_wp2
        exact ⟨rfl, hbw.trans hb2, Or.inr ⟨by rw [H1.out, H2.out], rfl⟩⟩
    · obtain rfl : k = n := by omega
      have hkk2 : decide ((k : Int) < (k : Int)) = false := by simp
      go_wp2
      go_ret
      exact ⟨hbw, Or.inl ⟨xs, t, _, by rw [H1.out]; exact HN.out, rfl, HO.out, HRt.out⟩⟩
def isAct (base : Nat) (x : M.Act) (v : Value) (w : World) : Prop := ∃ a m cap, v = actV x a m cap ∧ OwnC w base (.slice a m cap) x.chs
theorem M.rA_no1 {l : M.By} (h : M.rB l = none) : M.rA l = none := by unfold M.rA; rw [h]
theorem M.rA_at {l l1 : M.By} {k : Int} (h : M.rB l = some (k, l1)) : M.rA l = (match M.rT l1 with | none => none | some (o, l2) => match M.rT l2 with | none => none | some (n, l3) => match M.rL M.rC l3 with | none => none | some (c, l4) => some (⟨k, o, n, c⟩, l4)) := by
  unfold M.rA; rw [h]; rfl
set_option maxRecDepth 100000 in
set_option maxHeartbeats 4000000 in
theorem ract_any (b : Nat) (l : M.By) (w : World) (h : RdAt w b l) :
    Calls Tryz.prog 38 #[.pointer (some ⟨b, 0, none⟩)] w fun e w' => Reads b w w' (M.rA l) (isAct w.heap.size) e := by
  obtain ⟨R, hR⟩ : ∃ R, R = w.heap.size := ⟨_, rfl⟩
  obtain ⟨W, hW⟩ : ∃ W, W = w.alloc (.cells #[.int .i64 0, .string ⟨#[]⟩, .string ⟨#[]⟩, .slice none 0 0] 30) := ⟨_, rfl⟩
  have hb0 : But b w W := by rw [hW]; exact But.alloc _ _ _
  have q0 : W.heap[R]? = some (.cells #[.int .i64 0, .string ⟨#[]⟩, .string ⟨#[]⟩, .slice none 0 0] 30 (0, 0)) := by rw [hW, hR]; exact heap_alloc_new _ _
  have hlt := h.lt
  have hW0 : RdAt W b l := h.later (by rw [hW]; exact (Below.refl _ _).alloc (Nat.le_refl _) _)
  have hbR : b ≠ R := by omega
  have HBR : Aside (b ≠ R) := hbR
  have K : Hid (Calls Tryz.prog 63 #[.pointer (some ⟨b, 0, none⟩)] W fun e w' => Reads b W w' (M.rB l) isInt e) := byte_any b l W hW0
  have HQ : Hid (W.heap[R]? = some (.cells #[.int .i64 0, .string ⟨#[]⟩, .string ⟨#[]⟩, .slice none 0 0] 30 (0, 0))) := q0
  have HW : Hid (W = w.alloc (.cells #[.int .i64 0, .string ⟨#[]⟩, .string ⟨#[]⟩, .slice none 0 0] 30)) := hW
  have HR : Aside (R = w.heap.size) := hR
  clear h hW hR q0 hW0 hbR
  go_enter Tryz.func38, Tryz.ntmps38
  go_wp2_with fail
  rw [← HW.out, ← HR.out]
  refine K.out.mono ?_
  rintro e w1 ⟨hb1, ⟨k, l1, v, h1, rfl, rfl, hr⟩ | ⟨h1, rfl⟩⟩
  case inr =>
    have H1 : Hid (M.rB l = none) := h1
    clear h1 K
    unfold early
    go_wp2
    exact ⟨rfl, hb0.trans hb1, Or.inr ⟨M.rA_no1 H1.out, rfl⟩⟩
  have H1 : Hid (M.rA l = (match M.rT l1 with | none => none | some (o, l2) => match M.rT l2 with | none => none | some (n, l3) => match M.rL M.rC l3 with | none => none | some (c, l4) => some (⟨k, o, n, c⟩, l4))) := M.rA_at h1
  have K2 : Hid (Calls Tryz.prog 64 #[.pointer (some ⟨b, 0, none⟩)] w1 fun e w' => Reads b w1 w' (M.rT l1) isStr e) := text_any b l1 w1 hr
  have hc1 := hb0.trans hb1
  clear h1 hr K
  go_wp2_with fail
  refine K2.out.mono ?_
  rintro e w2 ⟨hb2, ⟨o, l2, v, h2, rfl, rfl, hr⟩ | ⟨h2, rfl⟩⟩
  case inr =>
    have H2 : Hid (M.rT l1 = none) := h2
    clear h2 K2
    unfold early
    go_wp2
    exact ⟨rfl, hc1.trans hb2, Or.inr ⟨by rw [H1.out, H2.out], rfl⟩⟩
  have H2 : Hid (M.rT l1 = some (o, l2)) := h2
  have K3 : Hid (Calls Tryz.prog 64 #[.pointer (some ⟨b, 0, none⟩)] w2 fun e w' => Reads b w2 w' (M.rT l2) isStr e) := text_any b l2 w2 hr
  have hc2 := hc1.trans hb2
  clear h2 hr K2
  go_wp2_with fail
  refine K3.out.mono ?_
  rintro e w3 ⟨hb3, ⟨n, l3, v, h3, rfl, rfl, hr⟩ | ⟨h3, rfl⟩⟩
  case inr =>
    have H3 : Hid (M.rT l2 = none) := h3
    clear h3 K3
    unfold early
    go_wp2
    exact ⟨rfl, hc2.trans hb3, Or.inr ⟨by rw [H1.out, H2.out]; simp only; rw [H3.out], rfl⟩⟩
  have H3 : Hid (M.rT l2 = some (n, l3)) := h3
  have K4 : Hid (Calls Tryz.prog 65 #[.pointer (some ⟨b, 0, none⟩), .func (.func 66) #[] #[]] w3 fun e w' => Reads b w3 w' (M.rL M.rC l3) (isChgs w3.heap.size) e) := lchange_any b l3 w3 hr
  have hc3 := hc2.trans hb3
  clear h3 hr K3
  go_wp2_with fail
  refine K4.out.mono ?_
  rintro e w4 ⟨hb4, ⟨c, l4, v, h4, rfl, oc, hr⟩ | ⟨h4, rfl⟩⟩
  case inr =>
    have H4 : Hid (M.rL M.rC l3 = none) := h4
    clear h4 K4
    unfold early
    go_wp2
    exact ⟨rfl, hc3.trans hb4, Or.inr ⟨by rw [H1.out, H2.out]; simp only; rw [H3.out]; simp only; rw [H4.out], rfl⟩⟩
  have H4 : Hid (M.rL M.rC l3 = some (c, l4)) := h4
  have hc4 := hc3.trans hb4
  obtain ⟨ca, cc, rfl, _⟩ := OwnC.rc oc
  obtain ⟨cn, hcn⟩ : ∃ cn, cn = c.length := ⟨_, rfl⟩
  have oc2 : OwnC w4 w3.heap.size (.slice ca cn cc) c := by rw [hcn]; exact oc
  rw [← hcn]
  have q4 : w4.heap[R]? = some (.cells #[.int .i64 0, .string ⟨#[]⟩, .string ⟨#[]⟩, .slice none 0 0] 30 (0, 0)) := ((((hb1.trans hb2).trans hb3).trans hb4).block R (Array.getElem?_eq_some_iff.1 HQ.out).1 (fun e => HBR.out (Option.some.inj e).symm)).trans HQ.out
  have y0 : w4.cell? ⟨R, 0, none⟩ = some (.int .i64 0) := by rw [cell_of_row _ _ _ _ _ _ q4]; rfl
  have y1 : w4.cell? ⟨R, 1, none⟩ = some (.string ⟨#[]⟩) := by rw [cell_of_row _ _ _ _ _ _ q4]; rfl
  have y2 : w4.cell? ⟨R, 2, none⟩ = some (.string ⟨#[]⟩) := by rw [cell_of_row _ _ _ _ _ _ q4]; rfl
  have y3 : w4.cell? ⟨R, 3, none⟩ = some (.slice none 0 0) := by rw [cell_of_row _ _ _ _ _ _ q4]; rfl
  have f0 : w4.frozen? ⟨R, 0, none⟩ = false := frozen_of_row _ _ _ _ _ q4
  have f1 : w4.frozen? ⟨R, 1, none⟩ = false := frozen_of_row _ _ _ _ _ q4
  have f2 : w4.frozen? ⟨R, 2, none⟩ = false := frozen_of_row _ _ _ _ _ q4
  have f3 : w4.frozen? ⟨R, 3, none⟩ = false := frozen_of_row _ _ _ _ _ q4
  obtain ⟨so, hso⟩ : ∃ so, so = M.str o := ⟨_, rfl⟩
  obtain ⟨sn, hsn⟩ : ∃ sn, sn = M.str n := ⟨_, rfl⟩
  rw [← hso, ← hsn]
  obtain ⟨X, hX⟩ : ∃ X, X = (((w4.setCell ⟨R, 0, none⟩ (.int .i64 k)).setCell ⟨R, 1, none⟩ (.string so)).setCell ⟨R, 2, none⟩ (.string sn)).setCell ⟨R, 3, none⟩ (.slice ca cn cc) := ⟨_, rfl⟩
  have qX : X.heap[R]? = some (.cells #[.int .i64 k, .string so, .string sn, .slice ca cn cc] 30 (0, 0)) := by
    rw [hX, heap_setCell_same _ _ _ _ _ _ (heap_setCell_same _ _ _ _ _ _ (heap_setCell_same _ _ _ _ _ _ (heap_setCell_same _ _ _ _ _ _ q4)))]; rfl
  have HX : Hid (X = (((w4.setCell ⟨R, 0, none⟩ (.int .i64 k)).setCell ⟨R, 1, none⟩ (.string so)).setCell ⟨R, 2, none⟩ (.string sn)).setCell ⟨R, 3, none⟩ (.slice ca cn cc)) := hX
  have HRX : Hid (RdAt X b l4) := by unfold Hid; rw [hX]; exact (((hr.other HBR.out _).other HBR.out _).other HBR.out _).other HBR.out _
  have HBX : Hid (But b w X) := by unfold Hid; rw [hX]; exact (((hc4.setNew (Nat.le_of_eq HR.out.symm) _).setNew (Nat.le_of_eq HR.out.symm) _).setNew (Nat.le_of_eq HR.out.symm) _).setNew (Nat.le_of_eq HR.out.symm) _
  have HAX : Hid (isAct w.heap.size ⟨k, o, n, c⟩ (.agg #[.int .i64 k, .string so, .string sn, .slice ca cn cc]) X) := by
    have g : ∀ (V : World) (i : Nat) (u : Value) (cur : Array Value), V.heap[R]? = some (.cells cur 30 (0, 0)) → OwnC V w3.heap.size (.slice ca cn cc) c → OwnC (V.setCell ⟨R, i, none⟩ u) w3.heap.size (.slice ca cn cc) c := fun V i u cur hV ho => ownsRow_elsewhere ho (grownBy_set V ⟨R, i, none⟩ u) fun r e cur' he => by
      cases e
      rw [show V.heap[R]? = _ from hV] at he
      simp at he
    refine ⟨ca, cn, cc, by rw [hso, hsn]; rfl, ?_⟩
    rw [hX]
    have e1 := heap_setCell_same w4 R 0 _ _ (.int .i64 k) q4
    have e2 := heap_setCell_same _ R 1 _ _ (.string so) e1
    have e3 := heap_setCell_same _ R 2 _ _ (.string sn) e2
    exact ownsRow_lower (g _ _ _ _ e3 (g _ _ _ _ e2 (g _ _ _ _ e1 (g _ _ _ _ q4 oc2)))) hc3.size
  have HX0 : Aside (X.cell? ⟨R, 0, none⟩ = some (.int .i64 k) ∧ X.cell? ⟨R, 1, none⟩ = some (.string so) ∧ X.cell? ⟨R, 2, none⟩ = some (.string sn) ∧ X.cell? ⟨R, 3, none⟩ = some (.slice ca cn cc)) := ⟨by rw [cell_of_row _ _ _ _ _ _ qX]; rfl, by rw [cell_of_row _ _ _ _ _ _ qX]; rfl, by rw [cell_of_row _ _ _ _ _ _ qX]; rfl, by rw [cell_of_row _ _ _ _ _ _ qX]; rfl⟩
  clear h4 hr K4 q4 qX hX oc oc2 hso hsn hcn
  go_wp2
  rw [← HX.out]
  obtain ⟨z0, z1, z2, z3⟩ := HX0.out
  refine bodyPost_ret (v := .agg #[.int .i64 k, .string so, .string sn, .slice ca cn cc]) (by simp [results, Tryz.results38, go_sem, z0, z1, z2, z3]) rfl ?_
  exact ⟨HBX.out, Or.inl ⟨⟨k, o, n, c⟩, l4, _, by rw [H1.out, H2.out]; simp only; rw [H3.out]; simp only; rw [H4.out], rfl, HAX.out, HRX.out⟩⟩
theorem run_assert (xt : TypeId) (w : World) : Sem.run Tryz.prog (Instr.typeAssert (.iface 25 (.int .i64 1)) xt 25 false) w = .ok (.int .i64 1) w := by
  simp [Instr.typeAssert, go_sem]
set_option maxRecDepth 100000 in
theorem catch_panicking (p : Addr) (x : Int) (older : List PanicEntry) (w : World) (hc : w.cell? p = some (.int .i64 x)) (hz : w.frozen? p = false) :
    CallsD Tryz.prog 62 #[.pointer (some p)] (.panicking ({ v := .iface 25 (.int .i64 1), recovered := false } :: older)) w fun e u' w' =>
      e = .returned (.tuple #[]) ∧ u' = .panicking ({ v := .iface 25 (.int .i64 1), recovered := true } :: older) ∧ w' = w.setCell p (.int .i64 1) := by
  refine callsD_of_wpS Tryz.func62 rfl fun c₀ cs hu => ?_
  apply wpS_seq
  apply wpS_region
  simp [wpOpsS, go_sem, recoverD, hu, Tryz.ntmps62, Exit.thenS]
  apply wpS_seq
  apply wpS_region
  simp [wpOpsS, go_sem, Exit.thenS]
  refine wpS_cond (t := true) (by simp [Act.eval]) ?_
  simp only [if_true]
  apply wpS_region
  simp [wpOpsS, go_sem, run_assert, hc, hz, bodyPostS, results, Tryz.results62]
set_option maxRecDepth 100000 in
theorem catch_idle (p : Addr) (w : World) :
    CallsD Tryz.prog 62 #[.pointer (some p)] .returning w fun e u' w' => e = .returned (.tuple #[]) ∧ u' = .returning ∧ w' = w := by
  refine callsD_of_wpS Tryz.func62 rfl fun c₀ cs hu => ?_
  apply wpS_seq
  apply wpS_region
  simp [wpOpsS, go_sem, recoverD, hu, Tryz.ntmps62, Exit.thenS]
  apply wpS_seq
  apply wpS_region
  simp [wpOpsS, go_sem, Exit.thenS]
  refine wpS_cond (t := false) (by simp [Act.eval]) ?_
  simp only [Bool.false_eq_true, if_false]
  refine wpS_of_wp (wp_skip ?_)
  cases c₀
  simp_all [bodyPostS, results, Tryz.results62]
set_option maxRecDepth 100000 in
set_option maxHeartbeats 4000000 in
theorem readA_any (l : M.By) (w : World) (hl : l.length ≤ 1000000) :
    Calls Tryz.prog 37 #[.string (M.str l), .func (.func 38) #[] #[]] w fun e w' => Below w.heap.size w w' ∧
      ((∃ x t v, M.rA l = some (x, t) ∧ e = .returned (.tuple #[v, .int .i64 ((l.length - t.length : Nat) : Int), .int .i64 0]) ∧ isAct w.heap.size x v w') ∨
       (M.rA l = none ∧ e = .returned (.tuple #[.agg #[.int .i64 0, .string ⟨#[]⟩, .string ⟨#[]⟩, .slice none 0 0], .int .i64 0, .int .i64 1]))) := by
  have hmf : ∀ (fn : Fn) (first cap : Array Value) (w : World), (Instr.makeFunc fn first cap).run Tryz.prog w = .ok (.func fn first cap) w := fun _ _ _ _ => rfl
  obtain ⟨s, hs⟩ : ∃ s, s = M.str l := ⟨_, rfl⟩
  obtain ⟨p, hp⟩ : ∃ p, p = w.heap.size := ⟨_, rfl⟩
  obtain ⟨W, hW⟩ : ∃ W, W = ((w.alloc (.cells #[.int .i64 0, .string ⟨#[]⟩, .string ⟨#[]⟩, .slice none 0 0] 30)).alloc (.cells #[.int .i64 0] 25)).alloc (.cells #[.string s] 101) := ⟨_, rfl⟩
  have hb : Below w.heap.size w W := by rw [hW]; exact (((Below.refl _ _).alloc (Nat.le_refl _) _).alloc (by simp) _).alloc (by simp; omega) _
  have hR0 : RdAt W (p + 1 + 1) l := ⟨by rw [hW, hp, ← hs, show w.heap.size + 1 + 1 = ((w.alloc (.cells #[.int .i64 0, .string ⟨#[]⟩, .string ⟨#[]⟩, .slice none 0 0] 30)).alloc (.cells #[.int .i64 0] 25)).heap.size by simp]; exact heap_alloc_new _ _, by omega⟩
  have K : Hid (Calls Tryz.prog 38 #[.pointer (some ⟨p + 1 + 1, 0, none⟩)] W fun e w' => Reads (p + 1 + 1) W w' (M.rA l) (isAct W.heap.size) e) := ract_any (p + 1 + 1) l W hR0
  have HW : Hid (W = ((w.alloc (.cells #[.int .i64 0, .string ⟨#[]⟩, .string ⟨#[]⟩, .slice none 0 0] 30)).alloc (.cells #[.int .i64 0] 25)).alloc (.cells #[.string s] 101)) := hW
  have HP : Aside (p = w.heap.size) := hp
  rw [← hs]
  have HS : Aside (s.size = l.length) := by unfold Aside; rw [hs, M.str_size]
  clear hW hp hR0 hs
  go_enter_defers Tryz.func37, Tryz.ntmps37
  go_wp2_with fail
  rw [← HW.out, ← HP.out]
  refine K.out.mono ?_
  rintro e w1 ⟨hb1, ⟨x, t, v, h1, rfl, ha, hr⟩ | ⟨h1, rfl⟩⟩
  · obtain ⟨ca, cn, cc, rfl, oc⟩ := ha
    unfold actV
    obtain ⟨kd, hkd⟩ : ∃ kd, kd = x.kind := ⟨_, rfl⟩
    obtain ⟨so, hso⟩ : ∃ so, so = M.str x.one := ⟨_, rfl⟩
    obtain ⟨st, hst⟩ : ∃ st, st = M.str x.two := ⟨_, rfl⟩
    obtain ⟨r, hrr⟩ : ∃ r, r = M.str t := ⟨_, rfl⟩
    rw [← hkd, ← hso, ← hst]
    have hsW : W.heap.size = p + 1 + 1 + 1 := by rw [HW.out, HP.out]; simp
    have q0 : W.heap[p]? = some (.cells #[.int .i64 0, .string ⟨#[]⟩, .string ⟨#[]⟩, .slice none 0 0] 30 (0, 0)) := by
      rw [HW.out, HP.out, Below.heap_alloc _ _ _ (by simp; omega), Below.heap_alloc _ _ _ (by simp)]; exact heap_alloc_new _ _
    have q1 : W.heap[p + 1]? = some (.cells #[.int .i64 0] 25 (0, 0)) := by
      rw [HW.out, HP.out, Below.heap_alloc _ _ _ (by simp), show w.heap.size + 1 = (w.alloc (.cells #[.int .i64 0, .string ⟨#[]⟩, .string ⟨#[]⟩, .slice none 0 0] 30)).heap.size by simp]; exact heap_alloc_new _ _
    have e0 : w1.heap[p]? = some (.cells #[.int .i64 0, .string ⟨#[]⟩, .string ⟨#[]⟩, .slice none 0 0] 30 (0, 0)) := (hb1.block p (by omega) (by simp; omega)).trans q0
    have e1 : w1.heap[p + 1]? = some (.cells #[.int .i64 0] 25 (0, 0)) := (hb1.block (p + 1) (by omega) (by simp)).trans q1
    have y0 : w1.cell? ⟨p, 0, none⟩ = some (.int .i64 0) := by rw [cell_of_row _ _ _ _ _ _ e0]; rfl
    have y1 : w1.cell? ⟨p, 1, none⟩ = some (.string ⟨#[]⟩) := by rw [cell_of_row _ _ _ _ _ _ e0]; rfl
    have y2 : w1.cell? ⟨p, 2, none⟩ = some (.string ⟨#[]⟩) := by rw [cell_of_row _ _ _ _ _ _ e0]; rfl
    have y3 : w1.cell? ⟨p, 3, none⟩ = some (.slice none 0 0) := by rw [cell_of_row _ _ _ _ _ _ e0]; rfl
    have f0 : w1.frozen? ⟨p, 0, none⟩ = false := frozen_of_row _ _ _ _ _ e0
    have f1 : w1.frozen? ⟨p, 1, none⟩ = false := frozen_of_row _ _ _ _ _ e0
    have f2 : w1.frozen? ⟨p, 2, none⟩ = false := frozen_of_row _ _ _ _ _ e0
    have f3 : w1.frozen? ⟨p, 3, none⟩ = false := frozen_of_row _ _ _ _ _ e0
    obtain ⟨X, hX⟩ : ∃ X, X = (((w1.setCell ⟨p, 0, none⟩ (.int .i64 kd)).setCell ⟨p, 1, none⟩ (.string so)).setCell ⟨p, 2, none⟩ (.string st)).setCell ⟨p, 3, none⟩ (.slice ca cn cc) := ⟨_, rfl⟩
    have qX : X.heap[p]? = some (.cells #[.int .i64 kd, .string so, .string st, .slice ca cn cc] 30 (0, 0)) := by
      rw [hX, heap_setCell_same _ _ _ _ _ _ (heap_setCell_same _ _ _ _ _ _ (heap_setCell_same _ _ _ _ _ _ (heap_setCell_same _ _ _ _ _ _ e0)))]; rfl
    have oth : ∀ k, k ≠ p → X.heap[k]? = w1.heap[k]? := fun k hk => by
      rw [hX, heap_setCell_other _ _ _ _ (by exact hk), heap_setCell_other _ _ _ _ (by exact hk), heap_setCell_other _ _ _ _ (by exact hk), heap_setCell_other _ _ _ _ (by exact hk)]
    have qX1 : X.heap[p + 1]? = some (.cells #[.int .i64 0] 25 (0, 0)) := (oth (p + 1) (by omega)).trans e1
    have rX : X.cell? ⟨p + 1 + 1, 0, none⟩ = some (.string r) := by rw [World.cell?_of_block (a := ⟨p + 1 + 1, 0, none⟩) (oth (p + 1 + 1) (by omega)), hr.cell, hrr]
    have HX : Hid (X = (((w1.setCell ⟨p, 0, none⟩ (.int .i64 kd)).setCell ⟨p, 1, none⟩ (.string so)).setCell ⟨p, 2, none⟩ (.string st)).setCell ⟨p, 3, none⟩ (.slice ca cn cc)) := hX
    have x0 : X.cell? ⟨p, 0, none⟩ = some (.int .i64 kd) := by rw [cell_of_row _ _ _ _ _ _ qX]; rfl
    have x1 : X.cell? ⟨p, 1, none⟩ = some (.string so) := by rw [cell_of_row _ _ _ _ _ _ qX]; rfl
    have x2 : X.cell? ⟨p, 2, none⟩ = some (.string st) := by rw [cell_of_row _ _ _ _ _ _ qX]; rfl
    have x3 : X.cell? ⟨p, 3, none⟩ = some (.slice ca cn cc) := by rw [cell_of_row _ _ _ _ _ _ qX]; rfl
    have g0 : X.frozen? ⟨p, 0, none⟩ = false := frozen_of_row _ _ _ _ _ qX
    have g1 : X.frozen? ⟨p, 1, none⟩ = false := frozen_of_row _ _ _ _ _ qX
    have g2 : X.frozen? ⟨p, 2, none⟩ = false := frozen_of_row _ _ _ _ _ qX
    have g3 : X.frozen? ⟨p, 3, none⟩ = false := frozen_of_row _ _ _ _ _ qX
    have x4 : X.cell? ⟨p + 1, 0, none⟩ = some (.int .i64 0) := by rw [cell_of_row _ _ _ _ _ _ qX1]; rfl
    have g4 : X.frozen? ⟨p + 1, 0, none⟩ = false := frozen_of_row _ _ _ _ _ qX1
    obtain ⟨L, hL⟩ : ∃ L, s.size = L := ⟨_, rfl⟩
    obtain ⟨M', hM'⟩ : ∃ M', r.size = M' := ⟨_, rfl⟩
    have hLl : L = l.length := by rw [← hL, HS.out]
    have hMt : M' = t.length := by rw [← hM', hrr, M.str_size]
    have htl : t.length ≤ l.length := by have := M.rA_less h1; omega
    have hwr : IntKind.i64.wrap ((L : Int) - (M' : Int)) = ((L - M' : Nat) : Int) := by rw [IntKind.wrap_i64]; omega
    have HLM : Hid (L - M' = l.length - t.length) := by unfold Hid; rw [hLl, hMt]
    have H1 : Hid (M.rA l = some (x, t)) := h1
    have HKd : Aside (kd = x.kind ∧ so = M.str x.one ∧ st = M.str x.two) := ⟨hkd, hso, hst⟩
    have HOC : Hid (OwnC w1 W.heap.size (.slice ca cn cc) x.chs) := oc
    have HE0 : Hid (w1.heap[p]? = some (.cells #[.int .i64 0, .string ⟨#[]⟩, .string ⟨#[]⟩, .slice none 0 0] 30 (0, 0))) := e0
    have HQX : Hid (X.heap[p]? = some (.cells #[.int .i64 kd, .string so, .string st, .slice ca cn cc] 30 (0, 0)) ∧ X.heap[p + 1]? = some (.cells #[.int .i64 0] 25 (0, 0))) := ⟨qX, qX1⟩
    clear hLl hMt htl h1 hX hr oth qX qX1 e0 e1 q0 q1 hsW hrr hkd hso hst oc
    go_wp2_with fail
    rw [← HX.out]
    go_region
    obtain ⟨Z, hZ⟩ : ∃ Z, Z = (((((X.setCell ⟨p, 0, none⟩ (.int .i64 kd)).setCell ⟨p, 1, none⟩ (.string so)).setCell ⟨p, 2, none⟩ (.string st)).setCell ⟨p, 3, none⟩ (.slice ca cn cc)).setCell ⟨p + 1, 0, none⟩ (.int .i64 0)).drew := ⟨_, rfl⟩
    have d1 := heap_setCell_same X p 0 _ _ (.int .i64 kd) HQX.out.1
    have d2 := heap_setCell_same _ p 1 _ _ (.string so) d1
    have d3 := heap_setCell_same _ p 2 _ _ (.string st) d2
    have d4 := heap_setCell_same _ p 3 _ _ (.slice ca cn cc) d3
    have zp : Z.heap[p]? = some (.cells #[.int .i64 kd, .string so, .string st, .slice ca cn cc] 30 (0, 0)) := by
      rw [hZ]
      show (World.setCell _ _ _).heap[p]? = _
      rw [heap_setCell_other _ _ _ _ (by show p ≠ p + 1; omega), d4]; rfl
    have c4 : ((((X.setCell ⟨p, 0, none⟩ (.int .i64 kd)).setCell ⟨p, 1, none⟩ (.string so)).setCell ⟨p, 2, none⟩ (.string st)).setCell ⟨p, 3, none⟩ (.slice ca cn cc)).heap[p + 1]? = some (.cells #[.int .i64 0] 25 (0, 0)) := by
      rw [heap_setCell_other _ _ _ _ (by show p + 1 ≠ p; omega), heap_setCell_other _ _ _ _ (by show p + 1 ≠ p; omega), heap_setCell_other _ _ _ _ (by show p + 1 ≠ p; omega), heap_setCell_other _ _ _ _ (by show p + 1 ≠ p; omega)]
      exact HQX.out.2
    have zp1 : Z.heap[p + 1]? = some (.cells #[.int .i64 0] 25 (0, 0)) := by
      rw [hZ]
      show (World.setCell _ _ _).heap[p + 1]? = _
      rw [heap_setCell_same _ _ _ _ _ _ c4]; rfl
    have oth : ∀ k, k ≠ p → k ≠ p + 1 → Z.heap[k]? = w1.heap[k]? := fun k hk hk1 => by
      rw [hZ]
      show (World.setCell _ _ _).heap[k]? = _
      rw [heap_setCell_other _ _ _ _ (by exact hk1), heap_setCell_other _ _ _ _ (by exact hk), heap_setCell_other _ _ _ _ (by exact hk), heap_setCell_other _ _ _ _ (by exact hk), heap_setCell_other _ _ _ _ (by exact hk), HX.out, heap_setCell_other _ _ _ _ (by exact hk), heap_setCell_other _ _ _ _ (by exact hk), heap_setCell_other _ _ _ _ (by exact hk), heap_setCell_other _ _ _ _ (by exact hk)]
    have hsW : W.heap.size = p + 1 + 1 + 1 := by rw [HW.out, HP.out]; simp
    have bw1 : Below w.heap.size w w1 := hb.trans (hb1.below (by omega) |>.mono (by have := HP.out; omega))
    have hpw : w.heap.size ≤ p := by have := HP.out; omega
    have bZ : Below w.heap.size w Z := by
      rw [hZ, HX.out]
      refine Below.drew ?_
      exact ((((((((bw1.setCell (p := ⟨p, 0, none⟩) hpw _).setCell (p := ⟨p, 1, none⟩) hpw _).setCell (p := ⟨p, 2, none⟩) hpw _).setCell (p := ⟨p, 3, none⟩) hpw _).setCell (p := ⟨p, 0, none⟩) hpw _).setCell (p := ⟨p, 1, none⟩) hpw _).setCell (p := ⟨p, 2, none⟩) hpw _).setCell (p := ⟨p, 3, none⟩) hpw _).setCell (p := ⟨p + 1, 0, none⟩) (by show _ ≤ p + 1; omega) _
    have HAZ : Hid (isAct w.heap.size x (.agg #[.int .i64 kd, .string so, .string st, .slice ca cn cc]) Z) := by
      refine ⟨ca, cn, cc, by rw [HKd.out.1, HKd.out.2.1, HKd.out.2.2]; rfl, ?_⟩
      refine ownsRow_lower (keep_row HOC.out fun k hk e => oth k ?_ ?_) hb.size
      · have := (World.ownsRow.lt HOC.out k e).1; omega
      · have := (World.ownsRow.lt HOC.out k e).1; omega
    have HBZ : Hid (Below w.heap.size w Z) := bZ
    have u0 : Z.cell? ⟨p, 0, none⟩ = some (.int .i64 kd) := by rw [cell_of_row _ _ _ _ _ _ zp]; rfl
    have u1 : Z.cell? ⟨p, 1, none⟩ = some (.string so) := by rw [cell_of_row _ _ _ _ _ _ zp]; rfl
    have u2 : Z.cell? ⟨p, 2, none⟩ = some (.string st) := by rw [cell_of_row _ _ _ _ _ _ zp]; rfl
    have u3 : Z.cell? ⟨p, 3, none⟩ = some (.slice ca cn cc) := by rw [cell_of_row _ _ _ _ _ _ zp]; rfl
    have u4 : Z.cell? ⟨p + 1, 0, none⟩ = some (.int .i64 0) := by rw [cell_of_row _ _ _ _ _ _ zp1]; rfl
    rw [← hZ]
    clear hZ d1 d2 d3 d4 zp c4 zp1 oth hsW bw1 hpw bZ x0 x1 x2 x3 x4 g0 g1 g2 g3 g4 y0 y1 y2 y3 f0 f1 f2 f3 rX
    go_wp2
    refine leaves_cons (f := 62) (args := #[.pointer (some ⟨p + 1, 0, none⟩)]) (by simp) (by simp [go_sem]) ?_
    refine (catch_idle ⟨p + 1, 0, none⟩ _).mono ?_
    rintro e u' w'' ⟨rfl, rfl, rfl⟩
    simp [Leaves, settle, results, Tryz.results37, go_sem, u0, u1, u2, u3, u4]
    exact ⟨HBZ.out, x, t, H1.out, _, ⟨rfl, by rw [HLM.out]⟩, HAZ.out⟩
  · have hsW : W.heap.size = p + 1 + 1 + 1 := by rw [HW.out, HP.out]; simp
    have q0 : W.heap[p]? = some (.cells #[.int .i64 0, .string ⟨#[]⟩, .string ⟨#[]⟩, .slice none 0 0] 30 (0, 0)) := by
      rw [HW.out, HP.out, Below.heap_alloc _ _ _ (by simp; omega), Below.heap_alloc _ _ _ (by simp)]; exact heap_alloc_new _ _
    have q1 : W.heap[p + 1]? = some (.cells #[.int .i64 0] 25 (0, 0)) := by
      rw [HW.out, HP.out, Below.heap_alloc _ _ _ (by simp), show w.heap.size + 1 = (w.alloc (.cells #[.int .i64 0, .string ⟨#[]⟩, .string ⟨#[]⟩, .slice none 0 0] 30)).heap.size by simp]; exact heap_alloc_new _ _
    have e0 : w1.heap[p]? = some (.cells #[.int .i64 0, .string ⟨#[]⟩, .string ⟨#[]⟩, .slice none 0 0] 30 (0, 0)) := (hb1.block p (by omega) (by simp; omega)).trans q0
    have e1 : w1.heap[p + 1]? = some (.cells #[.int .i64 0] 25 (0, 0)) := (hb1.block (p + 1) (by omega) (by simp)).trans q1
    have c1 : w1.cell? ⟨p + 1, 0, none⟩ = some (.int .i64 0) := by rw [cell_of_row _ _ _ _ _ _ e1]; rfl
    have z1 : w1.frozen? ⟨p + 1, 0, none⟩ = false := frozen_of_row _ _ _ _ _ e1
    obtain ⟨X, hX⟩ : ∃ X, X = w1.setCell ⟨p + 1, 0, none⟩ (.int .i64 1) := ⟨_, rfl⟩
    have qX : X.heap[p]? = some (.cells #[.int .i64 0, .string ⟨#[]⟩, .string ⟨#[]⟩, .slice none 0 0] 30 (0, 0)) := by rw [hX, heap_setCell_other _ _ _ _ (by show p ≠ p + 1; omega)]; exact e0
    have qX1 : X.heap[p + 1]? = some (.cells #[.int .i64 1] 25 (0, 0)) := by rw [hX, heap_setCell_same _ _ _ _ _ _ e1]; rfl
    have x0 : X.cell? ⟨p, 0, none⟩ = some (.int .i64 0) := by rw [cell_of_row _ _ _ _ _ _ qX]; rfl
    have x1 : X.cell? ⟨p, 1, none⟩ = some (.string ⟨#[]⟩) := by rw [cell_of_row _ _ _ _ _ _ qX]; rfl
    have x2 : X.cell? ⟨p, 2, none⟩ = some (.string ⟨#[]⟩) := by rw [cell_of_row _ _ _ _ _ _ qX]; rfl
    have x3 : X.cell? ⟨p, 3, none⟩ = some (.slice none 0 0) := by rw [cell_of_row _ _ _ _ _ _ qX]; rfl
    have x4 : X.cell? ⟨p + 1, 0, none⟩ = some (.int .i64 1) := by rw [cell_of_row _ _ _ _ _ _ qX1]; rfl
    have bX : Below w.heap.size w X := by
      rw [hX]
      exact (hb.trans (hb1.below (by omega) |>.mono (by have := HP.out; omega))).setCell (p := ⟨p + 1, 0, none⟩) (by show _ ≤ p + 1; have := HP.out; omega) _
    have HBX : Hid (Below w.heap.size w X) := bX
    have HX : Hid (X = w1.setCell ⟨p + 1, 0, none⟩ (.int .i64 1)) := hX
    have H1 : Hid (M.rA l = none) := h1
    have HCc : Hid (w1.cell? ⟨p + 1, 0, none⟩ = some (.int .i64 0) ∧ w1.frozen? ⟨p + 1, 0, none⟩ = false) := ⟨c1, z1⟩
    clear h1 e0 e1 q0 q1 hsW qX qX1 hX c1 z1 bX
    unfold early
    go_wp2
    refine leaves_cons (f := 62) (args := #[.pointer (some ⟨p + 1, 0, none⟩)]) (by simp) (by simp [go_sem]) ?_
    refine (catch_panicking ⟨p + 1, 0, none⟩ 0 [] _ HCc.out.1 HCc.out.2).mono ?_
    rintro e u' w'' ⟨rfl, rfl, rfl⟩
    rw [← HX.out]
    simp [Leaves, settle, results, Tryz.results37, go_sem, x0, x1, x2, x3, x4]
    exact ⟨HBX.out, H1.out⟩
def act0 : M.Act := ⟨0, [], [], []⟩
def encAct : List M.Act → List Value → List Value
  | x :: xs, v :: vs => .int .i64 x.kind :: .string (M.str x.one) :: .string (M.str x.two) :: v :: encAct xs vs
  | _, _ => []
theorem encAct_append : ∀ (xs ys : List M.Act) (vs us : List Value), vs.length = xs.length → encAct (xs ++ ys) (vs ++ us) = encAct xs vs ++ encAct ys us
  | [], _, [], _, _ => rfl
  | [], _, _ :: _, _, h => by simp at h
  | _ :: _, _, [], _, h => by simp at h
  | x :: xs, ys, v :: vs, us, h => by
    have := encAct_append xs ys vs us (by simpa using h)
    simp [encAct, this]
theorem encAct_at : ∀ (xs : List M.Act) (vs : List Value), vs.length = xs.length → ∀ i, i < xs.length →
    (encAct xs vs)[i * 4]? = some (.int .i64 (xs.getD i act0).kind) ∧ (encAct xs vs)[i * 4 + 1]? = some (.string (M.str (xs.getD i act0).one)) ∧ (encAct xs vs)[i * 4 + 2]? = some (.string (M.str (xs.getD i act0).two)) ∧ (encAct xs vs)[i * 4 + 3]? = some (vs.getD i (.slice none 0 0))
  | [], _, _, i, hi => by simp at hi
  | _ :: _, [], h, _, _ => by simp at h
  | x :: xs, v :: vs, h, i, hi => by
    cases i with
    | zero => simp [encAct]
    | succ i =>
      have := encAct_at xs vs (by simpa using h) i (by simpa using hi)
      rw [show (i + 1) * 4 = i * 4 + 1 + 1 + 1 + 1 by omega]
      simpa [encAct] using this
def OwnA (w : World) (base : Nat) (v : Value) (xs : List M.Act) : Prop :=
  ∃ vs : List Value, vs.length = xs.length ∧ w.ownsRow base 30 4 v xs.length (encAct xs vs) ∧ ∀ i, i < xs.length → OwnC w base (vs.getD i (.slice none 0 0)) (xs.getD i act0).chs
theorem OwnA.nil (w : World) (base : Nat) : OwnA w base (.slice none 0 0) [] := ⟨[], rfl, World.ownsRow_nil _ _ _ _, fun i hi => by simp at hi⟩
theorem OwnA.later {w w' : World} {base : Nat} {v : Value} {xs : List M.Act} (h : OwnA w base v xs) (hb : Below w.heap.size w w') : OwnA w' base v xs := by
  obtain ⟨vs, h1, h2, h3⟩ := h
  exact ⟨vs, h1, ownsRow_later h2 hb, fun i hi => ownsRow_later (h3 i hi) hb⟩
def Ac (w : World) (a : Option Addr) (n : Nat) (xs : List M.Act) : Prop :=
  xs.length = n ∧ (n = 0 ∨ ∃ b off, a = some ⟨b, off, none⟩ ∧ b < w.heap.size ∧ ∀ i, i < n → ∃ ca cn cc, w.cell? ⟨b, off + i * 4, none⟩ = some (.int .i64 (xs.getD i act0).kind) ∧ w.cell? ⟨b, off + i * 4 + 1, none⟩ = some (.string (M.str (xs.getD i act0).one)) ∧ w.cell? ⟨b, off + i * 4 + 2, none⟩ = some (.string (M.str (xs.getD i act0).two)) ∧ w.cell? ⟨b, off + i * 4 + 3, none⟩ = some (.slice ca cn cc) ∧ Rc w ca cn (xs.getD i act0).chs ∧ cn ≤ 9223372036854775807)
theorem Ac.below {w w' : World} {a : Option Addr} {n : Nat} {xs : List M.Act} (h : Ac w a n xs) (hb : Below w.heap.size w w') : Ac w' a n xs := by
  obtain ⟨h1, h2⟩ := h
  refine ⟨h1, ?_⟩
  rcases h2 with h2 | ⟨b, off, ha, hlt, hc⟩
  · exact Or.inl h2
  · refine Or.inr ⟨b, off, ha, Nat.lt_of_lt_of_le hlt hb.size, fun i hi => ?_⟩
    obtain ⟨ca, cn, cc, k0, k1, k2, k3, k4, k5⟩ := hc i hi
    exact ⟨ca, cn, cc, (hb.cell (p := ⟨b, off + i * 4, none⟩) hlt).trans k0, (hb.cell (p := ⟨b, off + i * 4 + 1, none⟩) hlt).trans k1, (hb.cell (p := ⟨b, off + i * 4 + 2, none⟩) hlt).trans k2, (hb.cell (p := ⟨b, off + i * 4 + 3, none⟩) hlt).trans k3, k4.below hb (Nat.le_refl _), k5⟩
theorem OwnA.ac {w : World} {base : Nat} {v : Value} {xs : List M.Act} (h : OwnA w base v xs) : ∃ a cap, v = .slice a xs.length cap ∧ Ac w a xs.length xs ∧ xs.length ≤ cap ∧ cap ≤ maxLen := by
  obtain ⟨vs, hl, h0, hv⟩ := h
  obtain ⟨h1, h2⟩ := h0
  rcases h2 with ⟨rfl, hn⟩ | ⟨g, cap, cur, rfl, hb, hh, hc, hm, hz, hx⟩
  · exact ⟨none, 0, by rw [hn], ⟨rfl, Or.inl hn⟩, by omega, by simp [maxLen]⟩
  · have h0 : w.ownsRow base 30 4 (.slice (some ⟨g, 0, none⟩) xs.length cap) xs.length (encAct xs vs) := ⟨h1, Or.inr ⟨g, cap, cur, rfl, hb, hh, hc, hm, hz, hx⟩⟩
    have hlt : g < w.heap.size := (Array.getElem?_eq_some_iff.1 hh).1
    refine ⟨_, cap, rfl, ⟨rfl, Or.inr ⟨g, 0, rfl, hlt, fun i hi => ?_⟩⟩, hc, hm⟩
    obtain ⟨ca, cc, e, r, l1, l2⟩ := OwnC.rc (hv i hi)
    obtain ⟨e0, e1, e2, e3⟩ := encAct_at xs vs hl i hi
    refine ⟨ca, _, cc, ?_, ?_, ?_, ?_, r, by unfold maxLen at l2; omega⟩
    · rw [World.ownsRow.cellAt h0 (0 + i * 4) (by omega), Nat.zero_add, e0]
    · rw [World.ownsRow.cellAt h0 (0 + i * 4 + 1) (by omega), Nat.zero_add, e1]
    · rw [World.ownsRow.cellAt h0 (0 + i * 4 + 2) (by omega), Nat.zero_add, e2]
    · rw [World.ownsRow.cellAt h0 (0 + i * 4 + 3) (by omega), Nat.zero_add, e3, e]
theorem OwnA.append {w w1 : World} {base : Nat} {v v' u : Value} {xs : List M.Act} {x : M.Act} {vs : List Value} (hl : vs.length = xs.length) (h1 : w.ownsRow base 30 4 v xs.length (encAct xs vs)) (h2 : ∀ i, i < xs.length → OwnC w base (vs.getD i (.slice none 0 0)) (xs.getD i act0).chs)
    (hp : OwnC w base u x.chs) (h3 : w1.ownsRow base 30 4 v' (xs.length + 1) (encAct xs vs ++ [.int .i64 x.kind, .string (M.str x.one), .string (M.str x.two), u])) (hg : w.grownBy w1 v.ownBlock) : OwnA w1 base v' (xs ++ [x]) := by
  have no : ∀ r, v.ownBlock = some r → ∀ cur, w.heap[r]? ≠ some (.cells cur 64 (0, 0)) := by
    intro r hr cur hc
    rcases h1.2 with ⟨rfl, _⟩ | ⟨g, cap, cur', rfl, _, hgb, _⟩
    · simp [Value.ownBlock] at hr
    · obtain rfl : g = r := by simpa [Value.ownBlock] using hr
      rw [hgb] at hc
      simp at hc
  have keep : ∀ q d, OwnC w base q d → OwnC w1 base q d := fun q d h => ownsRow_elsewhere h hg no
  refine ⟨vs ++ [u], by simp [hl], ?_, fun i hi => ?_⟩
  · rw [encAct_append xs [x] vs [u] hl, List.length_append]
    exact h3
  · by_cases hlt : i < xs.length
    · have e1 : (vs ++ [u]).getD i (.slice none 0 0) = vs.getD i (.slice none 0 0) := by simp [List.getD, List.getElem?_append_left (show i < vs.length by omega)]
      have e2 : (xs ++ [x]).getD i act0 = xs.getD i act0 := by simp [List.getD, List.getElem?_append_left hlt]
      rw [e1, e2]
      exact keep _ _ (h2 i hlt)
    · obtain rfl : i = xs.length := by simp at hi; omega
      have e1 : (vs ++ [u]).getD xs.length (.slice none 0 0) = u := by rw [← hl]; simp [List.getD]
      have e2 : (xs ++ [x]).getD xs.length act0 = x := by simp [List.getD]
      rw [e1, e2]
      exact keep _ _ hp
theorem infoAct : (Tryz.prog.info? 30).map (fun i => (i.zero, i.size, i.bytes)) = some (some (.agg #[.int .i64 0, .string ⟨#[]⟩, .string ⟨#[]⟩, .slice none 0 0]), 4, 64) := by kernel_rfl
theorem cell_four_new (w : World) (x y z u : Value) (t : TypeId) : ∀ j v, [x, y, z, u][j]? = some v → (w.alloc (.cells #[x, y, z, u] t)).cell? ((⟨w.heap.size, 0, none⟩ : Addr).add j) = some v := by
  intro j v hj
  match j, hj with
  | 0, hj => simp at hj; subst hj; simp [go_sem, Addr.add]
  | 1, hj => simp at hj; subst hj; simp [go_sem, Addr.add]
  | 2, hj => simp at hj; subst hj; simp [go_sem, Addr.add]
  | 3, hj => simp at hj; subst hj; simp [go_sem, Addr.add]
theorem M.rAs_more {n : Nat} {l t : M.By} {x : M.Act} (h : M.rA l = some (x, t)) : M.rAs (n + 1) l = (x :: (M.rAs n t).1, (M.rAs n t).2) := by
  rw [M.rAs, h]
theorem M.rA_drop {l t : M.By} {x : M.Act} (h : M.rA l = some (x, t)) : t = l.drop (l.length - t.length) := by
  have e := (M.rA_inv h).1
  have hl : l.length - t.length = (M.pA x).length := by rw [e]; simp
  rw [hl]
  conv => rhs; rw [e]
  rw [List.drop_left]
set_option maxRecDepth 100000 in
set_option maxHeartbeats 4000000 in
theorem replay_any (l : M.By) (w : World) (hl : l.length ≤ 9223372036854775807) :
    Calls Tryz.prog 13 #[.string (M.str l)] w fun e w' => Below w.heap.size w w' ∧
      ((4096 < l.length ∧ e = .returned (.tuple #[.slice none 0 0, .int .i64 0, .int .i64 2])) ∨
       (l.length ≤ 4096 ∧ ∃ v, e = .returned (.tuple #[v, .int .i64 ((l.length - (M.rAs 60 l).2.length : Nat) : Int), .int .i64 0]) ∧ OwnA w' w.heap.size v (M.rAs 60 l).1)) := by
  obtain ⟨s, hs⟩ : ∃ s, s = M.str l := ⟨_, rfl⟩
  have hsz : s.size = l.length := by rw [hs, M.str_size]
  obtain ⟨L, hL⟩ : ∃ L, L = l.length := ⟨_, rfl⟩
  rw [← hL] at hsz hl
  rw [← hs]
  obtain ⟨i1, hi1, hy0, hy1, hy2⟩ := info_parts infoAct
  by_cases h : 4096 < L
  · have hb : decide ((4096 : Int) < (L : Int)) = true := by simp; omega
    have HL : Hid (4096 < l.length) := by unfold Hid; omega
    clear hL hs h
    go_enter Tryz.func13, Tryz.ntmps13
    go_wp2
    go_ret3
    exact ⟨Below.refl _ _, Or.inl ⟨HL.out, rfl⟩⟩
  · have hb : decide ((4096 : Int) < (L : Int)) = false := by simp; omega
    have HL : Hid (l.length ≤ 4096) := by unfold Hid; omega
    have HS : Hid (s = M.str l) := hs
    have HLl : Aside (L = l.length) := hL
    clear hL hs h
    go_enter Tryz.func13, Tryz.ntmps13
    go_wp2_with fail
    go_loopg [5, 6] 60 (fun g v i wr => ∃ (k by' : Nat) (xs : List M.Act) (t : M.By), k + g = 60 ∧ i = .int .i64 by' ∧ Aside (t = l.drop by') ∧ Aside (by' ≤ L) ∧ Aside (M.rAs 60 l = (xs ++ (M.rAs g t).1, (M.rAs g t).2)) ∧ Aside (xs.length = k) ∧ Aside (OwnA wr w.heap.size v xs) ∧ Below w.heap.size w wr)
    case atStart => exact ⟨0, 0, [], l, by omega, rfl, rfl, by unfold Aside; omega, rfl, rfl, OwnA.nil _ _, Below.refl _ _⟩
    case round =>
      obtain ⟨k, by', xs, t, hkg, rfl, HT, HBy, HAs, HLx, HO, hbw⟩ := hrel
      obtain ⟨va, vc, hv, _⟩ := HO.out.ac
      rw [HLx.out] at hv
      subst hv
      have htl : t.length = L - by' := by rw [HT.out, List.length_drop, HLl.out]
      have HTl : Hid (t.length = L - by') := htl
      by_cases hk : k < 60
      · obtain ⟨gq, rfl⟩ : ∃ gq, gk = gq + 1 := ⟨gk - 1, by omega⟩
        have hki : (k : Int) < 60 := by omega
        have e1 : s.extract by' L = M.str t := by rw [HS.out, M.str_drop l by' L HLl.out, HT.out]
        have h2 : (by' : Int) ≤ (L : Int) := by have := HBy.out; omega
        have h3 : 0 ≤ (by' : Int) := by omega
        have K : Hid (Calls Tryz.prog 37 #[.string (M.str t), .func (.func 38) #[] #[]] wr fun e w' => Below wr.heap.size wr w' ∧
          ((∃ x t' v, M.rA t = some (x, t') ∧ e = .returned (.tuple #[v, .int .i64 ((t.length - t'.length : Nat) : Int), .int .i64 0]) ∧ isAct wr.heap.size x v w') ∨
           (M.rA t = none ∧ e = .returned (.tuple #[.agg #[.int .i64 0, .string ⟨#[]⟩, .string ⟨#[]⟩, .slice none 0 0], .int .i64 0, .int .i64 1])))) := readA_any t wr (by have h5 := HL.out; have h6 := HLl.out; rw [HTl.out]; omega)
        clear htl
        go_wp2_with fail
        refine K.out.mono ?_
        rintro e w1 ⟨b1, ⟨x, t2, v, h1, rfl, ca, cn, cc, rfl, oc⟩ | ⟨h1, rfl⟩⟩
        · have hb1 := hbw.trans (b1.mono hbw.size)
          obtain ⟨j, hj⟩ : ∃ j, j = t.length - t2.length := ⟨_, rfl⟩
          have hless := M.rA_less h1
          have hj2 : by' + j ≤ L := by have := HTl.out; have := HBy.out; omega
          have HT2 : Aside (t2 = l.drop (by' + j)) := by
            unfold Aside
            have := M.rA_drop h1
            rw [← hj] at this
            rw [this, HT.out, List.drop_drop]
          have HAs2 : Aside (M.rAs 60 l = ((xs ++ [x]) ++ (M.rAs gq t2).1, (M.rAs gq t2).2)) := by
            unfold Aside
            rw [HAs.out, M.rAs_more h1]
            simp
          have HLx2 : Aside ((xs ++ [x]).length = k + 1) := by unfold Aside; rw [List.length_append, HLx.out]; rfl
          have hwj : IntKind.i64.wrap ((by' : Int) + (j : Int)) = ((by' + j : Nat) : Int) := by rw [IntKind.wrap_i64]; have := HL.out; have := HLl.out; omega
          unfold actV
          obtain ⟨kd, hkd⟩ : ∃ kd, kd = x.kind := ⟨_, rfl⟩
          obtain ⟨so, hso⟩ : ∃ so, so = M.str x.one := ⟨_, rfl⟩
          obtain ⟨st, hst⟩ : ∃ st, st = M.str x.two := ⟨_, rfl⟩
          rw [← hj, ← hkd, ← hso, ← hst]
          obtain ⟨W2, hW2⟩ : ∃ W2, W2 = w1.alloc (.cells #[.int .i64 kd, .string so, .string st, .slice ca cn cc] 30) := ⟨_, rfl⟩
          obtain ⟨vs, hvl, hrow, hel⟩ := HO.out
          have b2 : Below w1.heap.size w1 W2 := by rw [hW2]; exact (Below.refl _ _).alloc (Nat.le_refl _) _
          have q2 : Below wr.heap.size wr W2 := b1.trans (b2.mono b1.size)
          rw [HLx.out] at hrow
          have HRA : Hid ((W2.alloc (.cells #[.int .i64 kd, .string so, .string st, .slice ca cn cc] 30)).ownsRow w.heap.size 30 4 (.slice va k vc) k (encAct xs vs)) := (ownsRow_later hrow q2).alloc _
          have HCN : Hid (∀ jj u, [Value.int .i64 kd, .string so, .string st, .slice ca cn cc][jj]? = some u → (W2.alloc (.cells #[.int .i64 kd, .string so, .string st, .slice ca cn cc] 30)).cell? ((⟨w1.heap.size + 1, 0, none⟩ : Addr).add jj) = some u) := by
            unfold Hid
            rw [show w1.heap.size + 1 = W2.heap.size by rw [hW2]; simp]
            exact cell_four_new _ _ _ _ _ _
          have HPut : Hid (∀ v' w', w'.ownsRow w.heap.size 30 4 v' (k + 1) (encAct xs vs ++ [.int .i64 kd, .string so, .string st, .slice ca cn cc]) → (W2.alloc (.cells #[.int .i64 kd, .string so, .string st, .slice ca cn cc] 30)).grownBy w' (Value.slice va k vc).ownBlock → OwnA w' w.heap.size v' (xs ++ [x])) := fun v' w' h3 hg => by
            have hba : Below W2.heap.size W2 (W2.alloc (.cells #[.int .i64 kd, .string so, .string st, .slice ca cn cc] 30)) := (Below.refl _ _).alloc (Nat.le_refl _) _
            refine OwnA.append (u := .slice ca cn cc) hvl (by rw [HLx.out]; exact HRA.out) (fun i hi => ownsRow_later (ownsRow_later (hel i hi) q2) hba) (ownsRow_later (ownsRow_later (ownsRow_lower oc hbw.size) b2) hba) ?_ hg
            rw [HLx.out, ← hkd, ← hso, ← hst]; exact h3
          have HB2 : Hid (Below w.heap.size w (W2.alloc (.cells #[.int .i64 kd, .string so, .string st, .slice ca cn cc] 30))) := ((hb1.trans (b2.mono hb1.size))).alloc (hb1.trans (b2.mono hb1.size)).size _
          have HOw : Hid (∀ kk, (Value.slice va k vc).ownBlock = some kk → w.heap.size ≤ kk) := fun kk e => (World.ownsRow.lt hrow kk e).1
          have HW2 : Hid (W2 = w1.alloc (.cells #[.int .i64 kd, .string so, .string st, .slice ca cn cc] 30)) := hW2
          clear h1 oc hless hkd hso hst hj hW2 hvl hrow hel b2 q2 K b1
          go_wp2_with (at_builtin; refine wpList_append_own _ rfl _ _ 22 rfl w.heap.size 30 i1 (.agg #[.int .i64 0, .string ⟨#[]⟩, .string ⟨#[]⟩, .slice none 0 0]) 4 64 Tryz.underlying22 hi1 hy0 hy1 hy2 rfl (by decide) _ k (encAct xs vs) rfl (by rw [← HW2.out]; exact HRA.out) ⟨w1.heap.size + 1, 0, none⟩ 1 1 [.int .i64 kd, .string so, .string st, .slice ca cn cc] rfl rfl (by rw [← HW2.out]; exact HCN.out) (by simp [Value.oneCell']) (by simp only [maxLen]; omega) (by omega) (by rw [← HW2.out]; exact HB2.out.size) ?_)
          rw [← HW2.out]
          intro v3 w3 h6 h7 _
          have HO3 : Aside (OwnA w3 w.heap.size v3 (xs ++ [x])) := HPut.out v3 w3 h6 h7
          have b3 : Below w.heap.size w w3 := HB2.out.grown h7 HB2.out.size HOw.out
          clear h6 h7 HPut HRA HCN HOw
          go_wp2
          go_roundg gq
          case measure => omega
          case rel => exact ⟨k + 1, by' + j, _, t2, by omega, by go_num, HT2, hj2, HAs2, HLx2, HO3, b3⟩
        · have hb1 := hbw.trans (b1.mono hbw.size)
          obtain ⟨W2, hW2⟩ : ∃ W2, W2 = w1.alloc (.cells #[.int .i64 0, .string ⟨#[]⟩, .string ⟨#[]⟩, .slice none 0 0] 30) := ⟨_, rfl⟩
          have b2 : Below w1.heap.size w1 W2 := by rw [hW2]; exact (Below.refl _ _).alloc (Nat.le_refl _) _
          have HW2 : Hid (W2 = w1.alloc (.cells #[.int .i64 0, .string ⟨#[]⟩, .string ⟨#[]⟩, .slice none 0 0] 30)) := hW2
          have HAe : Hid (M.rAs 60 l = (xs, t)) := by unfold Hid; rw [HAs.out, M.rAs_none _ _ h1]; simp
          have HO2 : Hid (OwnA W2 w.heap.size (.slice va k vc) xs) := HO.out.later (b1.trans (b2.mono b1.size))
          have HB2 : Hid (Below w.heap.size w W2) := hb1.trans (b2.mono hb1.size)
          clear hW2 b2 b1 h1 K
          go_wp2
          rw [← HW2.out]
          go_ret3
          refine ⟨HB2.out, Or.inr ⟨HL.out, .slice va k vc, ?_, ?_⟩⟩
          · rw [HAe.out, show l.length - t.length = by' by have := HTl.out; have := HBy.out; have := HLl.out; omega]; rfl
          · rw [HAe.out]; exact HO2.out
      · obtain rfl : k = 60 := by omega
        obtain rfl : gk = 0 := by omega
        have HAe : Hid (M.rAs 60 l = (xs, t)) := by unfold Hid; rw [HAs.out]; simp [M.rAs]
        go_wp2
        go_ret3
        refine ⟨hbw, Or.inr ⟨HL.out, .slice va 60 vc, ?_, ?_⟩⟩
        · rw [HAe.out, show l.length - t.length = by' by have := HTl.out; have := HBy.out; have := HLl.out; omega]; rfl
        · rw [HAe.out]; exact HO.out
theorem dbelow2 {w a b : World} (h : Below w.heap.size w a) (k : Below a.heap.size a b) : Below w.heap.size w b := h.trans (k.mono h.size)
def dfew : List (Int × Int) := [(2, 5), (7, 0), (9, 30)]
theorem dfew_any (w : World) : Calls Tryz.prog 105 #[] w fun e w' => e = .returned (.slice (some ⟨w.heap.size, 0, none⟩) 3 3) ∧ Rd w' (some ⟨w.heap.size, 0, none⟩) 3 dfew ∧ Below w.heap.size w w' := by
  go_enter Tryz.func105, Tryz.ntmps105
  go_wp2
  go_ret
  refine ⟨rfl, ⟨rfl, Or.inr ⟨w.heap.size, 0, rfl, by simp, fun i hi => ?_⟩⟩, (Below.refl _ _).alloc (Nat.le_refl _) _⟩
  match i, hi with
  | 0, _ => constructor <;> simp [go_sem, dfew]
  | 1, _ => constructor <;> simp [go_sem, dfew]
  | 2, _ => constructor <;> simp [go_sem, dfew]
def crossL : List M.Com := [([], []), (dfew, [0]), ([], [0]), ([], [1, 2]), ([], [1, 2]), ([], [])]
def crossC (f b1 b2 b3 b4 : Nat) : Array Value :=
  #[.slice none 0 0, .slice none 0 0, .slice (some ⟨f, 0, none⟩) 3 3, .slice (some ⟨b1, 0, none⟩) 1 1, .slice none 0 0, .slice (some ⟨b2, 0, none⟩) 1 1,
    .slice none 0 0, .slice (some ⟨b3, 0, none⟩) 2 2, .slice none 0 0, .slice (some ⟨b4, 0, none⟩) 2 2, .slice none 0 0, .slice none 0 0]
def CrossAt (w : World) (g : Nat) : Prop := ∃ f b1 b2 b3 b4, w.heap[g]? = some (.cells (crossC f b1 b2 b3 b4) 54 (0, 0)) ∧ f < g ∧ b1 < g ∧ b2 < g ∧ b3 < g ∧ b4 < g ∧
  Rd w (some ⟨f, 0, none⟩) 3 dfew ∧ Ri w (some ⟨b1, 0, none⟩) 1 [0] ∧ Ri w (some ⟨b2, 0, none⟩) 1 [0] ∧ Ri w (some ⟨b3, 0, none⟩) 2 [1, 2] ∧ Ri w (some ⟨b4, 0, none⟩) 2 [1, 2]
theorem rd_nil (w : World) (a : Option Addr) : Rd w a 0 [] := ⟨rfl, Or.inl rfl⟩
theorem ri_nil (w : World) (a : Option Addr) : Ri w a 0 [] := ⟨rfl, Or.inl rfl⟩
theorem CrossAt.lt {w : World} {g : Nat} (h : CrossAt w g) : g < w.heap.size := by
  obtain ⟨f, b1, b2, b3, b4, h1, _⟩ := h
  exact (Array.getElem?_eq_some_iff.1 h1).1
theorem CrossAt.cm {w : World} {g : Nat} (h : CrossAt w g) : Cm w (some ⟨g, 0, none⟩) 6 crossL := by
  have hlt := h.lt
  obtain ⟨f, b1, b2, b3, b4, h1, k1, k2, k3, k4, k5, r1, r2, r3, r4, r5⟩ := h
  refine ⟨rfl, Or.inr ⟨g, 0, rfl, hlt, fun i hi => ?_⟩⟩
  rw [cell_of_row w g _ _ _ _ h1, cell_of_row w g _ _ _ _ h1]
  match i, hi with
  | 0, _ => exact ⟨_, _, _, _, _, _, rfl, rfl, rd_nil _ _, ri_nil _ _, by omega, by omega⟩
  | 1, _ => exact ⟨_, _, _, _, _, _, rfl, rfl, r1, r2, by omega, by omega⟩
  | 2, _ => exact ⟨_, _, _, _, _, _, rfl, rfl, rd_nil _ _, r3, by omega, by omega⟩
  | 3, _ => exact ⟨_, _, _, _, _, _, rfl, rfl, rd_nil _ _, r4, by omega, by omega⟩
  | 4, _ => exact ⟨_, _, _, _, _, _, rfl, rfl, rd_nil _ _, r5, by omega, by omega⟩
  | 5, _ => exact ⟨_, _, _, _, _, _, rfl, rfl, rd_nil _ _, ri_nil _ _, by omega, by omega⟩
end Go.Proofs.YtcgpgflnihjpiagGreat
namespace Go.Proofs.YtcgpgflnihjpiagGreat
open Go.RowKit Go.Shelf
def M.cmpS (s t : ByteArray) : Int := Lib.compareBytes s.data.toList t.data.toList
set_option maxRecDepth 100000 in
theorem comps_any (a b : ByteArray) (w : World) :
    Calls Tryz.prog 118 #[.string a, .string b] w fun e w' => e = .returned (.int .i64 (M.cmpS a b)) ∧ w' = w := by
  go_enter Tryz.func118, Tryz.ntmps118
  go_wp2
  rw [run_callFunc_extern Tryz.func144 (by kernel_rfl) (by kernel_rfl) (by kernel_rfl) (e := Extern.BytealgCompare.compare) (by kernel_rfl), Lib.run_compareString]
  simp only [Result.andThen]
  rw [Oper.upon_value]
  go_wp2
  go_ret
  exact ⟨rfl, rfl⟩
theorem scompare_any (a b : ByteArray) (w : World) :
    Calls Tryz.prog 82 #[.string a, .string b] w fun e w' => e = .returned (.int .i64 (M.cmpS a b)) ∧ w' = w := by
  go_enter Tryz.func82, Tryz.ntmps82
  go_wp2_with (go_at_call 118; refine (comps_any _ _ _).mono ?_; rintro e w' ⟨rfl, rfl⟩)
  go_ret
  exact ⟨rfl, rfl⟩
theorem branch4_any (x y : M.Hd) (w : World) :
    Calls Tryz.prog 81 #[.agg #[.string x.1, .int .i64 x.2], .agg #[.string y.1, .int .i64 y.2]] w fun e w' => e = .returned (.int .i64 (M.cmpS x.1 y.1)) ∧ w' = (w.alloc (.cells #[.string x.1, .int .i64 x.2] 58)).alloc (.cells #[.string y.1, .int .i64 y.2] 58) := by
  obtain ⟨s, i⟩ := x
  obtain ⟨t, j⟩ := y
  go_enter Tryz.func81, Tryz.ntmps81
  go_wp2_with (go_at_call 82; refine (scompare_any _ _ _).mono ?_; rintro e w' ⟨rfl, rfl⟩)
  go_ret
  exact ⟨rfl, rfl⟩
theorem cmp_less : ∀ (a b : List UInt8), decide (Lib.compareBytes a b < 0) = Op.bytesLess a b
  | [], [] => by simp [Lib.compareBytes, Op.bytesLess]
  | [], _ :: _ => by simp [Lib.compareBytes, Op.bytesLess]
  | _ :: _, [] => by simp [Lib.compareBytes, Op.bytesLess]
  | x :: a, y :: b => by
    have ih := cmp_less a b
    unfold Lib.compareBytes Op.bytesLess
    by_cases h1 : x < y
    · simp [h1]
    · by_cases h2 : y < x
      · have h3 : ¬ x = y := fun e => by subst e; exact UInt8.lt_irrefl _ h2
        simp [h1, h2, h3]
      · have h3 : x = y := UInt8.le_antisymm (UInt8.not_lt.1 h2) (UInt8.not_lt.1 h1)
        subst h3
        simp [ih]
theorem M.cmpS_less (s t : ByteArray) : decide (M.cmpS s t < 0) = M.less s t := by
  unfold M.cmpS M.less
  rw [cmp_less, ByteArray.toList_eq, ByteArray.toList_eq]
end Go.Proofs.YtcgpgflnihjpiagGreat
namespace Go.Proofs.YtcgpgflnihjpiagGreat
open Go.RowKit Go.Shelf Go.Sort
theorem bless_irr : ∀ a : List UInt8, Op.bytesLess a a = false
  | [] => rfl
  | x :: a => by simp [Op.bytesLess, bless_irr a]
theorem bless_trans : ∀ a b c : List UInt8, Op.bytesLess a b = true → Op.bytesLess b c = true → Op.bytesLess a c = true
  | _, _, [], _, h => by simp [Op.bytesLess] at h
  | _, [], _ :: _, h, _ => by simp [Op.bytesLess] at h
  | [], _ :: _, _ :: _, _, _ => by simp [Op.bytesLess]
  | x :: a, y :: b, z :: c, h1, h2 => by
    simp only [Op.bytesLess, Bool.or_eq_true, decide_eq_true_eq, Bool.and_eq_true, beq_iff_eq] at h1 h2 ⊢
    rcases h1 with h1 | ⟨rfl, h1⟩
    · rcases h2 with h2 | ⟨rfl, h2⟩
      · exact Or.inl (UInt8.lt_trans h1 h2)
      · exact Or.inl h1
    · rcases h2 with h2 | ⟨rfl, h2⟩
      · exact Or.inl h2
      · exact Or.inr ⟨rfl, bless_trans a b c h1 h2⟩
theorem M.less_trans {a b c : ByteArray} (h1 : M.less a b = true) (h2 : M.less b c = true) : M.less a c = true := bless_trans _ _ _ h1 h2
theorem M.less_asymm {a b : ByteArray} (h1 : M.less a b = true) : M.less b a = false := by
  cases h : M.less b a with
  | false => rfl
  | true =>
    have := M.less_trans h1 h
    unfold M.less at this
    rw [bless_irr] at this
    cases this
instance : Inhabited M.Hd := ⟨M.hd0⟩
def M.insH (x : M.Hd) : List M.Hd → List M.Hd
  | [] => [x]
  | h :: t => if M.less x.1 h.1 = true then x :: h :: t else h :: M.insH x t
def M.cmpH (x y : M.Hd) : Int := M.cmpS x.1 y.1
theorem M.ltOf_less (x y : M.Hd) : ltOf M.cmpH x y = M.less x.1 y.1 := M.cmpS_less x.1 y.1
theorem M.ins1 (a x : M.Hd) : insertionSort (ltOf M.cmpH) #[a, x] 0 2 = (M.insH x [a]).toArray := by
  unfold insertionSort
  rw [insOuter_go _ _ _ _ _ (by omega), insOuter_stop _ _ _ _ _ (by omega)]
  by_cases h : M.less x.1 a.1 = true
  · simp [insInner, M.ltOf_less, swp, M.insH, h]
  · simp [insInner, M.ltOf_less, M.insH, h]
theorem M.ins2 (a b x : M.Hd) (h1 : M.less a.1 b.1 = true) : insertionSort (ltOf M.cmpH) #[a, b, x] 0 3 = (M.insH x [a, b]).toArray := by
  have h2 := M.less_asymm h1
  unfold insertionSort
  rw [insOuter_go _ _ _ _ _ (by omega), insOuter_go _ _ _ _ _ (by omega), insOuter_stop _ _ _ _ _ (by omega)]
  have e1 : insInner (ltOf M.cmpH) 0 1 #[a, b, x] = #[a, b, x] := by simp [insInner, M.ltOf_less, h2]
  rw [show 0 + 1 = 1 from rfl, e1]
  by_cases hb : M.less x.1 b.1 = true
  · by_cases ha : M.less x.1 a.1 = true
    · simp [insInner, M.ltOf_less, swp, M.insH, ha, hb]
    · simp [insInner, M.ltOf_less, swp, M.insH, ha, hb]
  · have ha : ¬ M.less x.1 a.1 = true := fun h => hb (M.less_trans h h1)
    simp [insInner, M.ltOf_less, M.insH, ha, hb]
theorem M.ins3 (a b c x : M.Hd) (h1 : M.less a.1 b.1 = true) (k1 : M.less b.1 c.1 = true) : insertionSort (ltOf M.cmpH) #[a, b, c, x] 0 4 = (M.insH x [a, b, c]).toArray := by
  have h2 := M.less_asymm h1
  have k2 := M.less_asymm k1
  unfold insertionSort
  rw [insOuter_go _ _ _ _ _ (by omega), insOuter_go _ _ _ _ _ (by omega), insOuter_go _ _ _ _ _ (by omega), insOuter_stop _ _ _ _ _ (by omega)]
  have e1 : insInner (ltOf M.cmpH) 0 1 #[a, b, c, x] = #[a, b, c, x] := by simp [insInner, M.ltOf_less, h2]
  have e2 : insInner (ltOf M.cmpH) 0 2 #[a, b, c, x] = #[a, b, c, x] := by simp [insInner, M.ltOf_less, k2]
  rw [show 0 + 1 = 1 from rfl, e1, show 1 + 1 = 2 from rfl, e2]
  by_cases hc : M.less x.1 c.1 = true
  · by_cases hb : M.less x.1 b.1 = true
    · by_cases ha : M.less x.1 a.1 = true
      · simp [insInner, M.ltOf_less, swp, M.insH, ha, hb, hc]
      · simp [insInner, M.ltOf_less, swp, M.insH, ha, hb, hc]
    · have ha : ¬ M.less x.1 a.1 = true := fun h => hb (M.less_trans h h1)
      simp [insInner, M.ltOf_less, swp, M.insH, ha, hb, hc]
  · have hb : ¬ M.less x.1 b.1 = true := fun h => hc (M.less_trans h k1)
    have ha : ¬ M.less x.1 a.1 = true := fun h => hb (M.less_trans h h1)
    simp [insInner, M.ltOf_less, M.insH, ha, hb, hc]
theorem M.ins_all (H : List M.Hd) (x : M.Hd) (hr : M.rise H = true) (h1 : 1 ≤ H.length) (h3 : H.length ≤ 3) : insertionSort (ltOf M.cmpH) (H ++ [x]).toArray 0 (H ++ [x]).toArray.size = (M.insH x H).toArray := by
  match H, hr, h1, h3 with
  | [a], _, _, _ => exact M.ins1 a x
  | [a, b], hr, _, _ =>
    simp only [M.rise, M.riseF, Bool.and_true] at hr
    exact M.ins2 a b x hr
  | [a, b, c], hr, _, _ =>
    simp only [M.rise, M.riseF, Bool.and_true, Bool.and_eq_true] at hr
    exact M.ins3 a b c x hr.1 hr.2
theorem M.insH_len (x : M.Hd) (H : List M.Hd) : (M.insH x H).length = H.length + 1 := by
  induction H with
  | nil => rfl
  | cons h t ih =>
    unfold M.insH
    split
    · rfl
    · simp [ih]
theorem M.insH_mem (x : M.Hd) (H : List M.Hd) (y : M.Hd) : y ∈ M.insH x H ↔ y = x ∨ y ∈ H := by
  induction H with
  | nil => simp [M.insH]
  | cons h t ih =>
    unfold M.insH
    split
    · simp
    · simp only [List.mem_cons, ih]
      constructor
      · rintro (h | h | h) <;> simp [h]
      · rintro (h | h | h) <;> simp [h]
end Go.Proofs.YtcgpgflnihjpiagGreat
