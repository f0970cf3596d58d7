/- dag.Above, dag.Bases. -/
import Derived.Test.YtoeipmoonmgajaeDag3
import Derived.Laws.AppendOwnNone
namespace Go.Proofs.Ytoeipmoonmgajae
open Go.RowKit

theorem AllPost.of {L : List M.Com} {xs : List Int} {n : Nat} {w w1 : World} {e : Ending} {w' : World} (h : AllPost L xs n w1 e w') (hb : Below w.heap.size w w1) : AllPost L xs n w e w' := by
  have hs := hb.size
  obtain ⟨h1, h2⟩ := h
  refine ⟨hb.trans (h1.mono hs), ?_⟩
  rcases h2 with h2 | ⟨h3, g, hg, h4⟩
  · exact Or.inl h2
  · exact Or.inr ⟨h3, g, by omega, h4⟩

theorem dabove_bad (a : Option Addr) (n cap : Nat) (L : List M.Com) (x : Int) (w : World) (h : Cm w a n L) (hm : n ≤ 9223372036854775807) (hz : M.dchk L ≠ 0) :
    Calls Try.prog 12 #[.slice a n cap, .int .i64 x] w fun e w' => e = .returned (.tuple #[.slice none 0 0, .int .i64 (M.dchk L)]) ∧ Below w.heap.size w w' := by
  have hb : Below w.heap.size w (w.alloc (.cells #[.int .i64 x] 3)) := (Below.refl _ _).alloc (Nat.le_refl _) _
  have H := aboveAll_bad a n cap L (.slice (some ⟨w.heap.size, 0, none⟩) 1 1) (w.alloc (.cells #[.int .i64 x] 3)) (h.below hb (Nat.le_refl _)) hm hz
  obtain ⟨c, hc⟩ : ∃ c, c = M.dchk L := ⟨_, rfl⟩
  rw [← hc] at H ⊢
  have HH : Hid (Calls Try.prog 13 #[.slice a n cap, .slice (some ⟨w.heap.size, 0, none⟩) 1 1] (w.alloc (.cells #[.int .i64 x] 3)) fun e w' => e = .returned (.tuple #[.slice none 0 0, .int .i64 c]) ∧ Below (w.alloc (.cells #[.int .i64 x] 3)).heap.size (w.alloc (.cells #[.int .i64 x] 3)) w') := H
  clear H hz hc h
  go_enter Try.func12, Try.ntmps12
  go_wp2_with (go_at_call 13; refine HH.out.mono ?_; rintro e w' ⟨rfl, hb1⟩)
  go_ret2
  exact ⟨rfl, hb.trans (hb1.mono hb.size)⟩

theorem ri_one (w : World) (x : Int) : ∀ i, i < 1 → (w.alloc (.cells #[.int .i64 x] 3)).cell? ⟨w.heap.size, 0 + i, none⟩ = some (.int .i64 (([x] : List Int).getD i 0)) := by
  intro i hi
  obtain rfl : i = 0 := by omega
  simp [go_sem]
theorem ri_two (w : World) (x y : Int) : ∀ i, i < 2 → (w.alloc (.cells #[.int .i64 x, .int .i64 y] 3)).cell? ⟨w.heap.size, 0 + i, none⟩ = some (.int .i64 (([x, y] : List Int).getD i 0)) := by
  intro i hi
  match i, hi with
  | 0, _ => simp [go_sem]
  | 1, _ => simp [go_sem]

theorem dabove_good (a : Option Addr) (n cap : Nat) (L : List M.Com) (x : Int) (w : World) (h : Cm w a n L) (hz : M.dchk L = 0) :
    Calls Try.prog 12 #[.slice a n cap, .int .i64 x] w fun e w' => AllPost L [x] n w e w' := by
  have hb : Below w.heap.size w (w.alloc (.cells #[.int .i64 x] 3)) := (Below.refl _ _).alloc (Nat.le_refl _) _
  have H := aboveAll_good a n cap L w.heap.size 0 1 1 [x] (w.alloc (.cells #[.int .i64 x] 3)) (h.below hb (Nat.le_refl _)) hz (by omega) rfl (by simp) (ri_one w x)
  have HH : Hid (Calls Try.prog 13 #[.slice a n cap, .slice (some ⟨w.heap.size, 0, none⟩) 1 1] (w.alloc (.cells #[.int .i64 x] 3)) fun e w' => AllPost L [x] n (w.alloc (.cells #[.int .i64 x] 3)) e w') := H
  clear H hz h
  go_enter Try.func12, Try.ntmps12
  go_wp2_with fail
  refine HH.out.mono ?_
  intro e w' hp
  have hp2 := hp.of hb
  obtain ⟨k1, k2⟩ := hp2
  rcases k2 with ⟨k2, rfl⟩ | ⟨k2, g, k3, rfl, k4⟩
  · go_wp2
    go_ret2
    exact ⟨k1, Or.inl ⟨k2, rfl⟩⟩
  · have K4 : Hid (Bo w' g ((List.range n).map (M.all L [x]))) := k4
    clear k4
    go_wp2
    go_ret2
    exact ⟨k1, Or.inr ⟨k2, g, k3, rfl, K4.out⟩⟩

/-! ### numbers appended to a row of the call's own -/
def OwnI (w : World) (base : Nat) (v : Value) (l : List Int) : Prop := w.ownsRow base 3 1 v l.length (l.map (Value.int .i64))
theorem OwnI.nil (w : World) (base : Nat) : OwnI w base (.slice none 0 0) [] := World.ownsRow_nil _ _ _ _
theorem OwnI.mono {w : World} {base base' : Nat} {v : Value} {l : List Int} (h : OwnI w base v l) (hb : base' ≤ base) : OwnI w base' v l := by
  obtain ⟨h1, h2⟩ := h
  refine ⟨h1, ?_⟩
  rcases h2 with h2 | ⟨g, cap, cur, hv, hg, r⟩
  · exact Or.inl h2
  · exact Or.inr ⟨g, cap, cur, hv, Nat.le_trans hb hg, r⟩
theorem OwnI.ri {w : World} {base : Nat} {v : Value} {l : List Int} (h : OwnI w base v l) : ∃ a cap, v = .slice a l.length cap ∧ Ri w a l.length l ∧ l.length ≤ cap ∧ cap ≤ maxLen := by
  have h0 := h
  obtain ⟨h1, h2⟩ := h
  rcases h2 with ⟨rfl, hn⟩ | ⟨g, cap, cur, rfl, hb, hh, hc, hm, hs, hx⟩
  · exact ⟨none, 0, by rw [hn], ⟨rfl, Or.inl hn⟩, by omega, by simp [maxLen]⟩
  · refine ⟨_, cap, rfl, ⟨rfl, ?_⟩, hc, hm⟩
    have hlt : g < w.heap.size := (Array.getElem?_eq_some_iff.1 hh).1
    refine Or.inr ⟨g, 0, rfl, hlt, fun i hi => ?_⟩
    rw [World.ownsRow.cellAt h0 (0 + i) (by omega), Nat.zero_add]
    simp [List.getD, hi]
theorem append_ri {w : World} {ops : Array Oper} {rest : List Oper} {o : Oper} {a : Act} {Q : Exit → Act → World → Prop} (hgd : o.guard = none) (s x : Operand)
    (ho : o.op = .call { callee := .builtin .append, args := #[s, x], argTypes := #[23, 23] })
    (base : Nat) (v : Value) (l : List Int) (hs : a.eval s = v) (hown : OwnI w base v l)
    (b m c : Nat) (l2 : List Int) (hx : a.eval x = .slice (some ⟨b, 0, none⟩) m c) (hl2 : l2.length = m) (hc : ∀ i, i < m → w.cell? ⟨b, 0 + i, none⟩ = some (.int .i64 (l2.getD i 0)))
    (hbig : l.length + m ≤ 1000000) (hbase : base ≤ w.heap.size)
    (h : ∀ v' w', OwnI w' base v' (l ++ l2) → Below base w w' → (∀ k, k < w.heap.size → v.ownBlock ≠ some k → w'.heap[k]? = w.heap[k]?) → wpList Try.prog ops Q rest (a.put o.dst v') w') : wpList Try.prog ops Q (o :: rest) a w := by
  obtain ⟨i0, hi, hz0, hz1, hz2⟩ := info_parts infoInt
  have hnews : ∀ j u, (l2.map (Value.int .i64))[j]? = some u → w.cell? ((⟨b, 0, none⟩ : Addr).add j) = some u := by
    intro j u hj
    have hj2 : j < m := by have := (List.getElem?_eq_some_iff.1 hj).1; simpa [hl2] using this
    rw [Addr.add_lit, hc j hj2, ← hj]
    simp [List.getD, hl2, hj2]
  refine wpList_append_own _ hgd s x 23 ho base 3 i0 (.int .i64 0) 1 8 Try.underlying23 hi hz0 hz1 hz2 rfl (by decide) v l.length (l.map (Value.int .i64)) hs hown ⟨b, 0, none⟩ m c (l2.map (Value.int .i64)) hx (by simp [hl2]) hnews (by intro u hu; obtain ⟨y, _, rfl⟩ := List.mem_map.1 hu; rfl)
    (by simp only [maxLen]; omega) (by omega) hbase ?_
  intro v' w' h1 h2 _
  refine h v' w' ?_ ((Below.refl _ _).grown h2 hbase fun k hk => (World.ownsRow.lt hown k hk).1) (fun k hk hne => h2.block k hk (fun e => hne e.symm))
  unfold OwnI
  rw [List.map_append, List.length_append, hl2]
  exact h1
end Go.Proofs.Ytoeipmoonmgajae
