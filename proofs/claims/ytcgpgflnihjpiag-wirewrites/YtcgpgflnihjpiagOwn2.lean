/- Heads and commits that are the call's own; a desk. -/
import Derived.Test.YtcgpgflnihjpiagHeads1
import Derived.Test.YtcgpgflnihjpiagDag1
import Derived.Test.YtcgpgflnihjpiagMemA
import Derived.RangeFuncBox
namespace Go.Proofs.Ytcgpgflnihjpiag
open Go.RowKit

/-! ### rows of the call's own, in whatever memory that changes elsewhere -/
theorem ownsRow_elsewhere {W W' : World} {base : Nat} {e : TypeId} {size : Nat} {v : Value} {n : Nat} {xs : List Value} (h : W.ownsRow base e size v n xs) {row : Option Nat} (hg : W.grownBy W' row)
    (hrow : ∀ r, row = some r → ∀ cur, W.heap[r]? ≠ some (.cells cur e (0, 0))) : W'.ownsRow base e size v n xs := by
  refine h.kept hg ?_
  rcases h.2 with ⟨rfl, _⟩ | ⟨g, cap, cur, rfl, _, hgb, _⟩
  · exact .inl rfl
  · exact .inr fun e' => hrow g (by simpa [Value.ownBlock] using e'.symm) cur hgb
theorem ownsRow_later {w w' : World} {base : Nat} {e : TypeId} {size : Nat} {v : Value} {n : Nat} {xs : List Value} (h : w.ownsRow base e size v n xs) (hb : Below w.heap.size w w') : w'.ownsRow base e size v n xs := by
  obtain ⟨h1, h2⟩ := h
  refine ⟨h1, ?_⟩
  rcases h2 with h2 | ⟨g, cap, cur, hv, hg, hh, r⟩
  · exact Or.inl h2
  · exact Or.inr ⟨g, cap, cur, hv, hg, (hb.block g (Array.getElem?_eq_some_iff.1 hh).1).trans hh, r⟩
theorem ownsRow_lower {w : World} {base base' : Nat} {e : TypeId} {size : Nat} {v : Value} {n : Nat} {xs : List Value} (h : w.ownsRow base e size v n xs) (hb : base' ≤ base) : w.ownsRow base' e size v n xs := by
  obtain ⟨h1, h2⟩ := h
  refine ⟨h1, ?_⟩
  rcases h2 with h2 | ⟨g, cap, cur, hv, hg, r⟩
  · exact Or.inl h2
  · exact Or.inr ⟨g, cap, cur, hv, Nat.le_trans hb hg, r⟩
theorem grownBy_set (W : World) (a : Addr) (v : Value) : W.grownBy (W.setCell a v) (some a.block) :=
  ⟨rfl, rfl, rfl, by simp [World.setCell], fun k _ hne => heap_setCell_other W a k v (fun e => hne (by rw [e]))⟩
theorem grown_later {w w' : World} (h : Below w.heap.size w w') : w.grownBy w' none := ⟨h.os, h.tape, h.output, h.size, fun k hk _ => h.block k hk⟩

/-! ### heads -/
def encH (H : List M.Hd) : List Value := H.flatMap fun h => [.string h.1, .int .i64 h.2]
theorem encH_length (H : List M.Hd) : (encH H).length = H.length * 2 := by
  induction H with
  | nil => rfl
  | cons r t ih => simp [encH] at ih ⊢; omega
theorem encH_append (a b : List M.Hd) : encH (a ++ b) = encH a ++ encH b := by simp [encH]
theorem encH_cons (r : M.Hd) (t : List M.Hd) : encH (r :: t) = .string r.1 :: .int .i64 r.2 :: encH t := by simp [encH]
theorem encH_name (l : List M.Hd) (i : Nat) (h : i < l.length) : (encH l)[i * 2]? = some (.string (l.getD i M.hd0).1) := by
  induction l generalizing i with
  | nil => simp at h
  | cons r t ih =>
    rw [encH_cons]
    cases i with
    | zero => simp
    | succ i => rw [show (i + 1) * 2 = i * 2 + 1 + 1 by omega, List.getElem?_cons_succ, List.getElem?_cons_succ, ih i (by simpa using h)]; simp
theorem encH_at (l : List M.Hd) (i : Nat) (h : i < l.length) : (encH l)[i * 2 + 1]? = some (.int .i64 (l.getD i M.hd0).2) := by
  induction l generalizing i with
  | nil => simp at h
  | cons r t ih =>
    rw [encH_cons]
    cases i with
    | zero => simp
    | succ i => rw [show (i + 1) * 2 + 1 = i * 2 + 1 + 1 + 1 by omega, List.getElem?_cons_succ, List.getElem?_cons_succ, ih i (by simpa using h)]; simp
theorem encH_one (l : List M.Hd) : ∀ u ∈ encH l, u.oneCell' = true := by
  intro u hu
  simp only [encH, List.mem_flatMap] at hu
  obtain ⟨r, _, h⟩ := hu
  simp at h
  rcases h with rfl | rfl <;> rfl
/-- The heads H lie in a row of the call's own. -/
def OwnH (w : World) (base : Nat) (v : Value) (H : List M.Hd) : Prop := w.ownsRow base 49 2 v H.length (encH H) ∧ ∀ x ∈ H, x.1.size ≤ 9223372036854775807
theorem OwnH.hs {w : World} {base : Nat} {v : Value} {H : List M.Hd} (h : OwnH w base v H) : ∃ a cap, v = .slice a H.length cap ∧ Hs w a H.length H ∧ H.length ≤ cap ∧ cap ≤ maxLen ∧ (a = none → H.length = 0 ∧ cap = 0) := by
  have h0 := h.1
  obtain ⟨⟨h1, h2⟩, hs⟩ := h
  rcases h2 with ⟨rfl, hn⟩ | ⟨g, cap, cur, rfl, hb, hh, hc, hm, hz, hx⟩
  · exact ⟨none, 0, by rw [hn], ⟨rfl, Or.inl hn⟩, by omega, by simp [maxLen], fun _ => ⟨hn, rfl⟩⟩
  · refine ⟨_, cap, rfl, ⟨rfl, ?_⟩, hc, hm, fun h => by simp at h⟩
    have hlt : g < w.heap.size := (Array.getElem?_eq_some_iff.1 hh).1
    refine Or.inr ⟨g, 0, rfl, hlt, fun i hi => ⟨?_, ?_, ?_⟩⟩
    · rw [World.ownsRow.cellAt h0 (0 + i * 2) (by omega), Nat.zero_add, encH_name H i hi]
    · rw [World.ownsRow.cellAt h0 (0 + i * 2 + 1) (by omega), Nat.zero_add, encH_at H i hi]
    · exact hs _ (by simp [List.getD, hi])
theorem OwnH.later {w w' : World} {base : Nat} {v : Value} {H : List M.Hd} (h : OwnH w base v H) (hb : Below w.heap.size w w') : OwnH w' base v H := ⟨ownsRow_later h.1 hb, h.2⟩
theorem OwnH.lower {w : World} {base base' : Nat} {v : Value} {H : List M.Hd} (h : OwnH w base v H) (hb : base' ≤ base) : OwnH w base' v H := ⟨ownsRow_lower h.1 hb, h.2⟩
theorem OwnH.nil (w : World) (base : Nat) : OwnH w base (.slice none 0 0) [] := ⟨World.ownsRow_nil _ _ _ _, fun x hx => by simp at hx⟩

/-! ### commits -/
def encP (l : List (Value × Value)) : List Value := l.flatMap fun p => [p.1, p.2]
theorem encP_length (l : List (Value × Value)) : (encP l).length = l.length * 2 := by
  induction l with
  | nil => rfl
  | cons r t ih => simp [encP] at ih ⊢; omega
theorem encP_append (a b : List (Value × Value)) : encP (a ++ b) = encP a ++ encP b := by simp [encP]
theorem encP_cons (r : Value × Value) (t : List (Value × Value)) : encP (r :: t) = r.1 :: r.2 :: encP t := by simp [encP]
def vp0 : Value × Value := (.slice none 0 0, .slice none 0 0)
theorem encP_fst (l : List (Value × Value)) (i : Nat) (h : i < l.length) : (encP l)[i * 2]? = some (l.getD i vp0).1 := by
  induction l generalizing i with
  | nil => simp at h
  | cons r t ih =>
    rw [encP_cons]
    cases i with
    | zero => simp
    | succ i => rw [show (i + 1) * 2 = i * 2 + 1 + 1 by omega, List.getElem?_cons_succ, List.getElem?_cons_succ, ih i (by simpa using h)]; simp
theorem encP_snd (l : List (Value × Value)) (i : Nat) (h : i < l.length) : (encP l)[i * 2 + 1]? = some (l.getD i vp0).2 := by
  induction l generalizing i with
  | nil => simp at h
  | cons r t ih =>
    rw [encP_cons]
    cases i with
    | zero => simp
    | succ i => rw [show (i + 1) * 2 + 1 = i * 2 + 1 + 1 + 1 by omega, List.getElem?_cons_succ, List.getElem?_cons_succ, ih i (by simpa using h)]; simp
/-- One commit, its rows and its parents the call's own. -/
def OwnCo (w : World) (base : Nat) (p : Value × Value) (c : M.Com) : Prop := Own w base p.1 c.1 ∧ OwnI w base p.2 c.2 ∧ c.1.length ≤ 1000000 ∧ c.2.length ≤ 1000000
/-- The commits C lie in a row of the call's own, and all that they hold. -/
def OwnK (w : World) (base : Nat) (v : Value) (C : List M.Com) : Prop :=
  ∃ vals : List (Value × Value), vals.length = C.length ∧ w.ownsRow base 46 2 v C.length (encP vals) ∧ ∀ i, i < C.length → OwnCo w base (vals.getD i vp0) (C.getD i ([], []))
theorem OwnK.nil (w : World) (base : Nat) : OwnK w base (.slice none 0 0) [] := ⟨[], rfl, World.ownsRow_nil _ _ _ _, fun i hi => by simp at hi⟩
theorem OwnCo.later {w w' : World} {base : Nat} {p : Value × Value} {c : M.Com} (h : OwnCo w base p c) (hb : Below w.heap.size w w') : OwnCo w' base p c := ⟨ownsRow_later h.1 hb, ownsRow_later h.2.1 hb, h.2.2⟩
theorem OwnK.later {w w' : World} {base : Nat} {v : Value} {C : List M.Com} (h : OwnK w base v C) (hb : Below w.heap.size w w') : OwnK w' base v C := by
  obtain ⟨vals, h1, h2, h3⟩ := h
  exact ⟨vals, h1, ownsRow_later h2 hb, fun i hi => (h3 i hi).later hb⟩
theorem OwnK.lower {w : World} {base base' : Nat} {v : Value} {C : List M.Com} (h : OwnK w base v C) (hb : base' ≤ base) : OwnK w base' v C := by
  obtain ⟨vals, h1, h2, h3⟩ := h
  exact ⟨vals, h1, ownsRow_lower h2 hb, fun i hi => ⟨ownsRow_lower (h3 i hi).1 hb, ownsRow_lower (h3 i hi).2.1 hb, (h3 i hi).2.2⟩⟩
/-- A block of another kind changes. -/
theorem OwnK.elsewhere {w w' : World} {base : Nat} {v : Value} {C : List M.Com} (h : OwnK w base v C) {r : Nat} (hg : w.grownBy w' (some r)) {cur0 : Array Value} {t : TypeId} (hr : w.heap[r]? = some (.cells cur0 t (0, 0))) (h1 : t ≠ 46) (h2 : t ≠ 56) (h3 : t ≠ 3) : OwnK w' base v C := by
  have no : ∀ e, t ≠ e → ∀ r', some r = some r' → ∀ cur, w.heap[r']? ≠ some (.cells cur e (0, 0)) := fun e he r' hr' cur hc => by
    cases hr'
    rw [hr] at hc
    simp at hc
    exact he hc.2
  obtain ⟨vals, k1, k2, k3⟩ := h
  exact ⟨vals, k1, ownsRow_elsewhere k2 hg (no _ h1), fun i hi => ⟨ownsRow_elsewhere (k3 i hi).1 hg (no _ h2), ownsRow_elsewhere (k3 i hi).2.1 hg (no _ h3), (k3 i hi).2.2⟩⟩
theorem OwnH.elsewhere {w w' : World} {base : Nat} {v : Value} {H : List M.Hd} (h : OwnH w base v H) {r : Nat} (hg : w.grownBy w' (some r)) {cur0 : Array Value} {t : TypeId} (hr : w.heap[r]? = some (.cells cur0 t (0, 0))) (h1 : t ≠ 49) : OwnH w' base v H :=
  ⟨ownsRow_elsewhere h.1 hg (fun r' hr' cur hc => by
    cases hr'
    rw [hr] at hc
    simp at hc
    exact h1 hc.2), h.2⟩
/-- Inner slices that are nil are so wholly. -/
def Cn (w : World) (a : Option Addr) (n : Nat) : Prop := ∀ b off, a = some ⟨b, off, none⟩ → ∀ i, i < n → ∀ x m c, (w.cell? ⟨b, off + i * 2, none⟩ = some (.slice x m c) ∨ w.cell? ⟨b, off + i * 2 + 1, none⟩ = some (.slice x m c)) → x = none → m = 0 ∧ c = 0
theorem own_nil {w : World} {base : Nat} {e : TypeId} {size : Nat} {a : Option Addr} {n cap k : Nat} {xs : List Value} (h : w.ownsRow base e size (.slice a n cap) k xs) : a = none → n = 0 ∧ cap = 0 := by
  intro ha
  subst ha
  rcases h.2 with ⟨hv, hn⟩ | ⟨g, cap', cur, hv, _⟩
  · simp at hv; omega
  · simp at hv
theorem OwnK.cm {w : World} {base : Nat} {v : Value} {C : List M.Com} (h : OwnK w base v C) : ∃ a cap, v = .slice a C.length cap ∧ Cm w a C.length C ∧ Cn w a C.length ∧ C.length ≤ cap ∧ cap ≤ maxLen ∧ (a = none → C.length = 0 ∧ cap = 0) := by
  obtain ⟨vals, hl, h0, hv⟩ := h
  obtain ⟨h1, h2⟩ := h0
  rcases h2 with ⟨rfl, hn⟩ | ⟨g, cap, cur, rfl, hb, hh, hc, hm, hz, hx⟩
  · exact ⟨none, 0, by rw [hn], ⟨rfl, Or.inl hn⟩, fun b off e => by simp at e, by omega, by simp [maxLen], fun _ => ⟨hn, rfl⟩⟩
  · have h0 : w.ownsRow base 46 2 (.slice (some ⟨g, 0, none⟩) C.length cap) C.length (encP vals) := ⟨h1, Or.inr ⟨g, cap, cur, rfl, hb, hh, hc, hm, hz, hx⟩⟩
    have hlt : g < w.heap.size := (Array.getElem?_eq_some_iff.1 hh).1
    have cells : ∀ i, i < C.length → w.cell? ⟨g, 0 + i * 2, none⟩ = some (vals.getD i vp0).1 ∧ w.cell? ⟨g, 0 + i * 2 + 1, none⟩ = some (vals.getD i vp0).2 := fun i hi => by
      refine ⟨?_, ?_⟩
      · rw [World.ownsRow.cellAt h0 (0 + i * 2) (by omega), Nat.zero_add, encP_fst vals i (by omega)]
      · rw [World.ownsRow.cellAt h0 (0 + i * 2 + 1) (by omega), Nat.zero_add, encP_snd vals i (by omega)]
    refine ⟨_, cap, rfl, ⟨rfl, Or.inr ⟨g, 0, rfl, hlt, fun i hi => ?_⟩⟩, ?_, hc, hm, fun h => by simp at h⟩
    · obtain ⟨k1, k2⟩ := cells i hi
      obtain ⟨o1, o2, o3, o4⟩ := hv i hi
      obtain ⟨a1, c1, e1, r1, _⟩ := o1.rd
      obtain ⟨a2, c2, e2, r2, _⟩ := o2.ri
      exact ⟨a1, _, c1, a2, _, c2, by rw [k1, e1], by rw [k2, e2], r1, r2, by omega, by omega⟩
    · intro b off e i hi x m c hor hx
      cases e
      obtain ⟨k1, k2⟩ := cells i hi
      obtain ⟨o1, o2, _⟩ := hv i hi
      rcases hor with hcc | hcc
      · have hcc := Option.some.inj (k1.symm.trans hcc)
        unfold Own at o1
        rw [hcc] at o1
        exact own_nil o1 hx
      · have hcc := Option.some.inj (k2.symm.trans hcc)
        unfold OwnI at o2
        rw [hcc] at o2
        exact own_nil o2 hx

/-- A repo that is the call's own. -/
def RepoOwn (w : World) (base : Nat) (v : Value) (C : List M.Com) (H : List M.Hd) : Prop := ∃ x y, v = .agg #[x, y] ∧ OwnK w base x C ∧ OwnH w base y H
theorem RepoOwn.none (w : World) (base : Nat) : RepoOwn w base (.agg #[.slice none 0 0, .slice none 0 0]) [] [] := ⟨_, _, rfl, OwnK.nil _ _, OwnH.nil _ _⟩
theorem RepoOwn.later {w w' : World} {base : Nat} {v : Value} {C : List M.Com} {H : List M.Hd} (h : RepoOwn w base v C H) (hb : Below w.heap.size w w') : RepoOwn w' base v C H := by
  obtain ⟨x, y, e, h1, h2⟩ := h
  exact ⟨x, y, e, h1.later hb, h2.later hb⟩
theorem RepoOwn.lower {w : World} {base base' : Nat} {v : Value} {C : List M.Com} {H : List M.Hd} (h : RepoOwn w base v C H) (hb : base' ≤ base) : RepoOwn w base' v C H := by
  obtain ⟨x, y, e, h1, h2⟩ := h
  exact ⟨x, y, e, h1.lower hb, h2.lower hb⟩
/-- What may be read of a repo. -/
structure RepoV (w : World) (a : Option Addr) (n cap : Nat) (C : List M.Com) (a2 : Option Addr) (n2 cap2 : Nat) (H : List M.Hd) : Prop where
  cm : Cm w a n C
  cn : Cn w a n
  nm : n ≤ 9223372036854775807
  hs : Hs w a2 n2 H
  hm : n2 ≤ 9223372036854775807
  hn : a2 = none → n2 = 0 ∧ cap2 = 0
theorem RepoV.later {w w' : World} {a : Option Addr} {n cap : Nat} {C : List M.Com} {a2 : Option Addr} {n2 cap2 : Nat} {H : List M.Hd} (h : RepoV w a n cap C a2 n2 cap2 H) (hb : Below w.heap.size w w') : RepoV w' a n cap C a2 n2 cap2 H := by
  refine ⟨h.cm.below hb (Nat.le_refl _), ?_, h.nm, h.hs.below hb (Nat.le_refl _), h.hm, h.hn⟩
  intro b off e i hi x m c hor hx
  rcases h.cm.cases with ⟨h0, _⟩ | ⟨b', off', e', _, _, hB, _⟩
  · omega
  · rw [e] at e'
    cases e'
    refine h.cn b off e i hi x m c ?_ hx
    rw [hb.cell (p := ⟨b, off + i * 2, none⟩) hB, hb.cell (p := ⟨b, off + i * 2 + 1, none⟩) hB] at hor
    exact hor
theorem RepoOwn.v {w : World} {base : Nat} {v : Value} {C : List M.Com} {H : List M.Hd} (h : RepoOwn w base v C H) : ∃ a cap a2 cap2, v = .agg #[.slice a C.length cap, .slice a2 H.length cap2] ∧ RepoV w a C.length cap C a2 H.length cap2 H := by
  obtain ⟨x, y, e, h1, h2⟩ := h
  obtain ⟨a, cap, rfl, k1, k2, k3, k4, _⟩ := h1.cm
  obtain ⟨a2, cap2, rfl, l1, l2, l3, l4⟩ := h2.hs
  exact ⟨a, cap, a2, cap2, e, ⟨k1, k2, by unfold maxLen at k4; omega, l1, by unfold maxLen at l3; omega, l4⟩⟩
end Go.Proofs.Ytcgpgflnihjpiag
