/- Rows that a call itself has made, and rows appended to them. -/
import Derived.Test.YtcgpgflnihjpiafGreatBLogReplays01
import Derived.Laws.AppendOwnNone
import Derived.RangeFuncBox
import Derived.WalkLawsBesides
import Derived.Laws.Panics
import Derived.Lib.AppendZeros
namespace Go.Proofs.YtcgpgflnihjpiafGreat
open Go.RowKit

/-- The cells of rows. -/
def enc (l : List (Int × Int)) : List Value := l.flatMap fun r => [.int .i64 r.1, .int .i64 r.2]

theorem enc_length (l : List (Int × Int)) : (enc l).length = l.length * 2 := by
  induction l with
  | nil => rfl
  | cons r t ih => simp [enc] at ih ⊢; omega
theorem enc_append (a b : List (Int × Int)) : enc (a ++ b) = enc a ++ enc b := by simp [enc]
theorem enc_cons (r : Int × Int) (t : List (Int × Int)) : enc (r :: t) = .int .i64 r.1 :: .int .i64 r.2 :: enc t := by simp [enc]
theorem enc_key (l : List (Int × Int)) (i : Nat) (h : i < l.length) : (enc l)[i * 2]? = some (.int .i64 (l.getD i (0, 0)).1) := by
  induction l generalizing i with
  | nil => simp at h
  | cons r t ih =>
    rw [enc_cons]
    cases i with
    | zero => simp
    | succ i => rw [show (i + 1) * 2 = i * 2 + 1 + 1 by omega, List.getElem?_cons_succ, List.getElem?_cons_succ, ih i (by simpa using h)]; simp
theorem enc_val (l : List (Int × Int)) (i : Nat) (h : i < l.length) : (enc l)[i * 2 + 1]? = some (.int .i64 (l.getD i (0, 0)).2) := by
  induction l generalizing i with
  | nil => simp at h
  | cons r t ih =>
    rw [enc_cons]
    cases i with
    | zero => simp
    | succ i => rw [show (i + 1) * 2 + 1 = i * 2 + 1 + 1 + 1 by omega, List.getElem?_cons_succ, List.getElem?_cons_succ, ih i (by simpa using h)]; simp
theorem enc_one (l : List (Int × Int)) : ∀ u ∈ enc l, u.oneCell' = true := by
  intro u hu
  simp only [enc, List.mem_flatMap] at hu
  obtain ⟨r, _, h⟩ := hu
  simp at h
  rcases h with rfl | rfl <;> rfl

theorem Rd.enc {w : World} {b off n : Nat} {l : List (Int × Int)} (hl : l.length = n)
    (hc : ∀ i, i < n → w.cell? ⟨b, off + i * 2, none⟩ = some (.int .i64 (l.getD i (0, 0)).1) ∧ w.cell? ⟨b, off + i * 2 + 1, none⟩ = some (.int .i64 (l.getD i (0, 0)).2)) :
    ∀ j u, (enc l)[j]? = some u → w.cell? ((⟨b, off, none⟩ : Addr).add j) = some u := by
  intro j u hj
  have hjl : j < (YtcgpgflnihjpiafGreat.enc l).length := (List.getElem?_eq_some_iff.1 hj).1
  rw [enc_length] at hjl
  have hi : j / 2 < l.length := by omega
  rcases Nat.mod_two_eq_zero_or_one j with h0 | h1
  · obtain ⟨i, rfl⟩ : ∃ i, j = i * 2 := ⟨j / 2, by omega⟩
    rw [enc_key l i (by omega)] at hj
    rw [← hj, Addr.add_lit]; exact (hc i (by omega)).1
  · obtain ⟨i, rfl⟩ : ∃ i, j = i * 2 + 1 := ⟨j / 2, by omega⟩
    rw [enc_val l i (by omega)] at hj
    rw [← hj, Addr.add_lit, ← Nat.add_assoc]
    exact (hc i (by omega)).2

/-- The rows l lie in a row of the call's own. -/
def Own (w : World) (base : Nat) (v : Value) (l : List (Int × Int)) : Prop := w.ownsRow base 98 2 v l.length (enc l)

theorem Own.rd {w : World} {base : Nat} {v : Value} {l : List (Int × Int)} (h : Own w base v l) : ∃ a cap, v = .slice a l.length cap ∧ Rd w a l.length l ∧ l.length ≤ cap ∧ cap ≤ maxLen ∧ (a = none → l.length = 0 ∧ cap = 0) := by
  have h0 := h
  obtain ⟨h1, h2⟩ := h
  rcases h2 with ⟨rfl, hn⟩ | ⟨g, cap, cur, rfl, hb, hh, hc, hm, hs, hx⟩
  · exact ⟨none, 0, by rw [hn], ⟨rfl, Or.inl hn⟩, by omega, by simp [maxLen], fun _ => ⟨hn, rfl⟩⟩
  · refine ⟨_, cap, rfl, ⟨rfl, ?_⟩, hc, hm, fun h => by simp at h⟩
    have hlt : g < w.heap.size := (Array.getElem?_eq_some_iff.1 hh).1
    refine Or.inr ⟨g, 0, rfl, hlt, fun i hi => ⟨?_, ?_⟩⟩
    · rw [World.ownsRow.cellAt h0 (0 + i * 2) (by omega), Nat.zero_add, enc_key l i hi]
    · rw [World.ownsRow.cellAt h0 (0 + i * 2 + 1) (by omega), Nat.zero_add, enc_val l i hi]

theorem infoRow : (Tryz.prog.info? 98).map (fun i => (i.zero, i.size, i.bytes)) = some (some (.agg #[.int .i64 0, .int .i64 0]), 2, 16) := by kernel_rfl

/-- Rows appended to rows of the call's own. -/
theorem append_rd {w : World} {ops : Array Oper} {rest : List Oper} {o : Oper} {a : Act} {Q : Exit → Act → World → Prop} (hgd : o.guard = none) (s x : Operand)
    (ho : o.op = .call { callee := .builtin .append, args := #[s, x], argTypes := #[49, 49] })
    (base : Nat) (v : Value) (l : List (Int × Int)) (hs : a.eval s = v) (hown : Own w base v l)
    (ao : Option Addr) (m c : Nat) (l2 : List (Int × Int)) (hx : a.eval x = .slice ao m c) (hr : Rd w ao m l2) (hnil : ao = none → m = 0 ∧ c = 0)
    (hbig : l.length + m ≤ 1000000) (hbase : base ≤ w.heap.size)
    (h : ∀ v' w', Own w' base v' (l ++ l2) → Below base w w' → wpList Tryz.prog ops Q rest (a.put o.dst v') w') : wpList Tryz.prog ops Q (o :: rest) a w := by
  obtain ⟨i0, hi, hz0, hz1, hz2⟩ := info_parts infoRow
  cases ao with
  | none =>
    obtain ⟨rfl, rfl⟩ := hnil rfl
    have e2 : l2 = [] := List.eq_nil_of_length_eq_zero hr.1
    subst e2
    refine wpList_append_own_none hgd s x 49 ho base 98 i0 2 Tryz.underlying49 hi v l.length (enc l) hs hown hx ?_
    exact h v w (by simpa using hown) (Below.refl _ _)
  | some ad =>
    have hm2 : (enc l2).length = m * 2 := by rw [enc_length, hr.1]
    have hnews : ∀ j u, (enc l2)[j]? = some u → w.cell? (ad.add j) = some u := by
      rcases hr.cases with ⟨rfl, rfl⟩ | ⟨b, off, hab, hn, hl, hB, hc⟩
      · intro j u hj; simp [YtcgpgflnihjpiafGreat.enc] at hj
      · obtain rfl : ad = ⟨b, off, none⟩ := by simpa using hab
        exact Rd.enc hl hc
    refine wpList_append_own _ hgd s x 49 ho base 98 i0 (.agg #[.int .i64 0, .int .i64 0]) 2 16 Tryz.underlying49 hi hz0 hz1 hz2 rfl (by decide) v l.length (enc l) hs hown ad m c (enc l2) hx hm2 hnews (enc_one l2)
      (by simp only [maxLen]; omega) (by omega) hbase ?_
    intro v' w' h1 h2 _
    refine h v' w' ?_ ((Below.refl _ _).grown h2 hbase fun k hk => (World.ownsRow.lt hown k hk).1)
    unfold Own
    rw [enc_append, List.length_append, hr.1]
    exact h1

theorem Rd.zero {w : World} {a : Option Addr} {n : Nat} {l : List (Int × Int)} (h : n = 0) (hl : l.length = n) : Rd w a n l := ⟨hl, Or.inl h⟩
theorem Rd.take {w : World} {a : Option Addr} {n : Nat} {l : List (Int × Int)} (h : Rd w a n l) (k : Nat) (hk : k ≤ n) : Rd w a k (l.take k) := by
  obtain ⟨h1, h2⟩ := h
  refine ⟨by rw [List.length_take]; omega, ?_⟩
  rcases h2 with h2 | ⟨b, off, ha, hlt, hc⟩
  · exact Or.inl (by omega)
  · refine Or.inr ⟨b, off, ha, hlt, fun i hi => ?_⟩
    have e : (l.take k).getD i (0, 0) = l.getD i (0, 0) := by simp [List.getD, hi]
    rw [e]; exact hc i (by omega)
theorem Rd.drop {w : World} {b off n : Nat} {l : List (Int × Int)} (h : Rd w (some ⟨b, off, none⟩) n l) (k : Nat) : Rd w (some ⟨b, off + k * 2, none⟩) (n - k) (l.drop k) := by
  obtain ⟨h1, h2⟩ := h
  refine ⟨by rw [List.length_drop]; omega, ?_⟩
  by_cases hk : n ≤ k
  · exact Or.inl (by omega)
  · rcases h2 with h2 | ⟨b', off', ha, hlt, hc⟩
    · exact Or.inl (by omega)
    · obtain ⟨rfl, rfl⟩ : b = b' ∧ off = off' := by simpa using ha
      refine Or.inr ⟨b, off + k * 2, rfl, hlt, fun i hi => ?_⟩
      have e : (l.drop k).getD i (0, 0) = l.getD (k + i) (0, 0) := by simp [List.getD]
      have := hc (k + i) (by omega)
      rw [e, show off + k * 2 + i * 2 = off + (k + i) * 2 by omega]
      exact this

theorem drewN_below (w : World) (m : Nat) : Below w.heap.size w (w.drewN m) := below_drewN (Below.refl _ _) m

theorem one_rd (w : World) (key val : Int) : Rd (w.alloc (.cells #[.int .i64 key, .int .i64 val] 98)) (some ⟨w.heap.size, 0, none⟩) 1 [(key, val)] := by
  refine ⟨rfl, Or.inr ⟨w.heap.size, 0, rfl, by simp, fun i hi => ?_⟩⟩
  obtain rfl : i = 0 := by omega
  constructor <;> simp [go_sem]

theorem flat_take (LL : List (List (Int × Int))) (i : Nat) (h : i < LL.length) : (LL.take (i + 1)).flatten = (LL.take i).flatten ++ LL.getD i [] := by
  rw [List.take_succ_eq_append_getElem h, List.flatten_append]
  simp [List.getD, h]
theorem flat_le (LL : List (List (Int × Int))) (i : Nat) : (LL.take i).flatten.length ≤ LL.flatten.length := by
  have h := congrArg (fun x => x.flatten.length) (List.take_append_drop i LL)
  simp only [List.flatten_append, List.length_append] at h
  omega

end Go.Proofs.YtcgpgflnihjpiafGreat

/- Heads and commits that are the call's own; a desk. -/
namespace Go.Proofs.YtcgpgflnihjpiafGreat
open Go.RowKit

/-! ### rows of the call's own, in whatever memory that changes elsewhere -/
theorem ownsRow_elsewhere {W W' : World} {base : Nat} {e : TypeId} {size : Nat} {v : Value} {n : Nat} {xs : List Value} (h : W.ownsRow base e size v n xs) {row : Option Nat} (hg : W.grownBy W' row)
    (hrow : ∀ r, row = some r → ∀ cur, W.heap[r]? ≠ some (.cells cur e (0, 0))) : W'.ownsRow base e size v n xs := by
  refine h.kept hg ?_
  rcases h.2 with ⟨rfl, _⟩ | ⟨g, cap, cur, rfl, _, hgb, _⟩
  · exact .inl rfl
  · exact .inr fun e' => hrow g (by simpa [Value.ownBlock] using e'.symm) cur hgb
theorem ownsRow_later {w w' : World} {base : Nat} {e : TypeId} {size : Nat} {v : Value} {n : Nat} {xs : List Value} (h : w.ownsRow base e size v n xs) (hb : Below w.heap.size w w') : w'.ownsRow base e size v n xs := by
  obtain ⟨h1, h2⟩ := h
  refine ⟨h1, ?_⟩
  rcases h2 with h2 | ⟨g, cap, cur, hv, hg, hh, r⟩
  · exact Or.inl h2
  · exact Or.inr ⟨g, cap, cur, hv, hg, (hb.block g (Array.getElem?_eq_some_iff.1 hh).1).trans hh, r⟩
theorem ownsRow_lower {w : World} {base base' : Nat} {e : TypeId} {size : Nat} {v : Value} {n : Nat} {xs : List Value} (h : w.ownsRow base e size v n xs) (hb : base' ≤ base) : w.ownsRow base' e size v n xs := by
  obtain ⟨h1, h2⟩ := h
  refine ⟨h1, ?_⟩
  rcases h2 with h2 | ⟨g, cap, cur, hv, hg, r⟩
  · exact Or.inl h2
  · exact Or.inr ⟨g, cap, cur, hv, Nat.le_trans hb hg, r⟩
theorem grownBy_set (W : World) (a : Addr) (v : Value) : W.grownBy (W.setCell a v) (some a.block) :=
  ⟨rfl, rfl, rfl, by simp [World.setCell], fun k _ hne => heap_setCell_other W a k v (fun e => hne (by rw [e]))⟩
theorem grown_later {w w' : World} (h : Below w.heap.size w w') : w.grownBy w' none := ⟨h.os, h.tape, h.output, h.size, fun k hk _ => h.block k hk⟩

/-! ### heads -/
def encH (H : List M.Hd) : List Value := H.flatMap fun h => [.string h.1, .int .i64 h.2]
theorem encH_length (H : List M.Hd) : (encH H).length = H.length * 2 := by
  induction H with
  | nil => rfl
  | cons r t ih => simp [encH] at ih ⊢; omega
theorem encH_append (a b : List M.Hd) : encH (a ++ b) = encH a ++ encH b := by simp [encH]
theorem encH_cons (r : M.Hd) (t : List M.Hd) : encH (r :: t) = .string r.1 :: .int .i64 r.2 :: encH t := by simp [encH]
theorem encH_name (l : List M.Hd) (i : Nat) (h : i < l.length) : (encH l)[i * 2]? = some (.string (l.getD i M.hd0).1) := by
  induction l generalizing i with
  | nil => simp at h
  | cons r t ih =>
    rw [encH_cons]
    cases i with
    | zero => simp
    | succ i => rw [show (i + 1) * 2 = i * 2 + 1 + 1 by omega, List.getElem?_cons_succ, List.getElem?_cons_succ, ih i (by simpa using h)]; simp
theorem encH_at (l : List M.Hd) (i : Nat) (h : i < l.length) : (encH l)[i * 2 + 1]? = some (.int .i64 (l.getD i M.hd0).2) := by
  induction l generalizing i with
  | nil => simp at h
  | cons r t ih =>
    rw [encH_cons]
    cases i with
    | zero => simp
    | succ i => rw [show (i + 1) * 2 + 1 = i * 2 + 1 + 1 + 1 by omega, List.getElem?_cons_succ, List.getElem?_cons_succ, ih i (by simpa using h)]; simp
theorem encH_one (l : List M.Hd) : ∀ u ∈ encH l, u.oneCell' = true := by
  intro u hu
  simp only [encH, List.mem_flatMap] at hu
  obtain ⟨r, _, h⟩ := hu
  simp at h
  rcases h with rfl | rfl <;> rfl
/-- The heads H lie in a row of the call's own. -/
def OwnH (w : World) (base : Nat) (v : Value) (H : List M.Hd) : Prop := w.ownsRow base 71 2 v H.length (encH H) ∧ ∀ x ∈ H, x.1.size ≤ 9223372036854775807
theorem OwnH.hs {w : World} {base : Nat} {v : Value} {H : List M.Hd} (h : OwnH w base v H) : ∃ a cap, v = .slice a H.length cap ∧ Hs w a H.length H ∧ H.length ≤ cap ∧ cap ≤ maxLen ∧ (a = none → H.length = 0 ∧ cap = 0) := by
  have h0 := h.1
  obtain ⟨⟨h1, h2⟩, hs⟩ := h
  rcases h2 with ⟨rfl, hn⟩ | ⟨g, cap, cur, rfl, hb, hh, hc, hm, hz, hx⟩
  · exact ⟨none, 0, by rw [hn], ⟨rfl, Or.inl hn⟩, by omega, by simp [maxLen], fun _ => ⟨hn, rfl⟩⟩
  · refine ⟨_, cap, rfl, ⟨rfl, ?_⟩, hc, hm, fun h => by simp at h⟩
    have hlt : g < w.heap.size := (Array.getElem?_eq_some_iff.1 hh).1
    refine Or.inr ⟨g, 0, rfl, hlt, fun i hi => ⟨?_, ?_, ?_⟩⟩
    · rw [World.ownsRow.cellAt h0 (0 + i * 2) (by omega), Nat.zero_add, encH_name H i hi]
    · rw [World.ownsRow.cellAt h0 (0 + i * 2 + 1) (by omega), Nat.zero_add, encH_at H i hi]
    · exact hs _ (by simp [List.getD, hi])
theorem OwnH.later {w w' : World} {base : Nat} {v : Value} {H : List M.Hd} (h : OwnH w base v H) (hb : Below w.heap.size w w') : OwnH w' base v H := ⟨ownsRow_later h.1 hb, h.2⟩
theorem OwnH.lower {w : World} {base base' : Nat} {v : Value} {H : List M.Hd} (h : OwnH w base v H) (hb : base' ≤ base) : OwnH w base' v H := ⟨ownsRow_lower h.1 hb, h.2⟩
theorem OwnH.nil (w : World) (base : Nat) : OwnH w base (.slice none 0 0) [] := ⟨World.ownsRow_nil _ _ _ _, fun x hx => by simp at hx⟩

/-! ### commits -/
def encP (l : List (Value × Value)) : List Value := l.flatMap fun p => [p.1, p.2]
theorem encP_length (l : List (Value × Value)) : (encP l).length = l.length * 2 := by
  induction l with
  | nil => rfl
  | cons r t ih => simp [encP] at ih ⊢; omega
theorem encP_append (a b : List (Value × Value)) : encP (a ++ b) = encP a ++ encP b := by simp [encP]
theorem encP_cons (r : Value × Value) (t : List (Value × Value)) : encP (r :: t) = r.1 :: r.2 :: encP t := by simp [encP]
def vp0 : Value × Value := (.slice none 0 0, .slice none 0 0)
theorem encP_fst (l : List (Value × Value)) (i : Nat) (h : i < l.length) : (encP l)[i * 2]? = some (l.getD i vp0).1 := by
  induction l generalizing i with
  | nil => simp at h
  | cons r t ih =>
    rw [encP_cons]
    cases i with
    | zero => simp
    | succ i => rw [show (i + 1) * 2 = i * 2 + 1 + 1 by omega, List.getElem?_cons_succ, List.getElem?_cons_succ, ih i (by simpa using h)]; simp
theorem encP_snd (l : List (Value × Value)) (i : Nat) (h : i < l.length) : (encP l)[i * 2 + 1]? = some (l.getD i vp0).2 := by
  induction l generalizing i with
  | nil => simp at h
  | cons r t ih =>
    rw [encP_cons]
    cases i with
    | zero => simp
    | succ i => rw [show (i + 1) * 2 + 1 = i * 2 + 1 + 1 + 1 by omega, List.getElem?_cons_succ, List.getElem?_cons_succ, ih i (by simpa using h)]; simp
/-- One commit, its rows and its parents the call's own. -/
def OwnCo (w : World) (base : Nat) (p : Value × Value) (c : M.Com) : Prop := Own w base p.1 c.1 ∧ OwnI w base p.2 c.2 ∧ c.1.length ≤ 1000000 ∧ c.2.length ≤ 1000000
/-- The commits C lie in a row of the call's own, and all that they hold. -/
def OwnK (w : World) (base : Nat) (v : Value) (C : List M.Com) : Prop :=
  ∃ vals : List (Value × Value), vals.length = C.length ∧ w.ownsRow base 51 2 v C.length (encP vals) ∧ ∀ i, i < C.length → OwnCo w base (vals.getD i vp0) (C.getD i ([], []))
theorem OwnK.nil (w : World) (base : Nat) : OwnK w base (.slice none 0 0) [] := ⟨[], rfl, World.ownsRow_nil _ _ _ _, fun i hi => by simp at hi⟩
theorem OwnCo.later {w w' : World} {base : Nat} {p : Value × Value} {c : M.Com} (h : OwnCo w base p c) (hb : Below w.heap.size w w') : OwnCo w' base p c := ⟨ownsRow_later h.1 hb, ownsRow_later h.2.1 hb, h.2.2⟩
theorem OwnK.later {w w' : World} {base : Nat} {v : Value} {C : List M.Com} (h : OwnK w base v C) (hb : Below w.heap.size w w') : OwnK w' base v C := by
  obtain ⟨vals, h1, h2, h3⟩ := h
  exact ⟨vals, h1, ownsRow_later h2 hb, fun i hi => (h3 i hi).later hb⟩
theorem OwnK.lower {w : World} {base base' : Nat} {v : Value} {C : List M.Com} (h : OwnK w base v C) (hb : base' ≤ base) : OwnK w base' v C := by
  obtain ⟨vals, h1, h2, h3⟩ := h
  exact ⟨vals, h1, ownsRow_lower h2 hb, fun i hi => ⟨ownsRow_lower (h3 i hi).1 hb, ownsRow_lower (h3 i hi).2.1 hb, (h3 i hi).2.2⟩⟩
/-- A block of another kind changes. -/
theorem OwnK.elsewhere {w w' : World} {base : Nat} {v : Value} {C : List M.Com} (h : OwnK w base v C) {r : Nat} (hg : w.grownBy w' (some r)) {cur0 : Array Value} {t : TypeId} (hr : w.heap[r]? = some (.cells cur0 t (0, 0))) (h1 : t ≠ 51) (h2 : t ≠ 98) (h3 : t ≠ 3) : OwnK w' base v C := by
  have no : ∀ e, t ≠ e → ∀ r', some r = some r' → ∀ cur, w.heap[r']? ≠ some (.cells cur e (0, 0)) := fun e he r' hr' cur hc => by
    cases hr'
    rw [hr] at hc
    simp at hc
    exact he hc.2
  obtain ⟨vals, k1, k2, k3⟩ := h
  exact ⟨vals, k1, ownsRow_elsewhere k2 hg (no _ h1), fun i hi => ⟨ownsRow_elsewhere (k3 i hi).1 hg (no _ h2), ownsRow_elsewhere (k3 i hi).2.1 hg (no _ h3), (k3 i hi).2.2⟩⟩
theorem OwnH.elsewhere {w w' : World} {base : Nat} {v : Value} {H : List M.Hd} (h : OwnH w base v H) {r : Nat} (hg : w.grownBy w' (some r)) {cur0 : Array Value} {t : TypeId} (hr : w.heap[r]? = some (.cells cur0 t (0, 0))) (h1 : t ≠ 71) : OwnH w' base v H :=
  ⟨ownsRow_elsewhere h.1 hg (fun r' hr' cur hc => by
    cases hr'
    rw [hr] at hc
    simp at hc
    exact h1 hc.2), h.2⟩
/-- Inner slices that are nil are so wholly. -/
def Cn (w : World) (a : Option Addr) (n : Nat) : Prop := ∀ b off, a = some ⟨b, off, none⟩ → ∀ i, i < n → ∀ x m c, (w.cell? ⟨b, off + i * 2, none⟩ = some (.slice x m c) ∨ w.cell? ⟨b, off + i * 2 + 1, none⟩ = some (.slice x m c)) → x = none → m = 0 ∧ c = 0
theorem own_nil {w : World} {base : Nat} {e : TypeId} {size : Nat} {a : Option Addr} {n cap k : Nat} {xs : List Value} (h : w.ownsRow base e size (.slice a n cap) k xs) : a = none → n = 0 ∧ cap = 0 := by
  intro ha
  subst ha
  rcases h.2 with ⟨hv, hn⟩ | ⟨g, cap', cur, hv, _⟩
  · simp at hv; omega
  · simp at hv
theorem OwnK.cm {w : World} {base : Nat} {v : Value} {C : List M.Com} (h : OwnK w base v C) : ∃ a cap, v = .slice a C.length cap ∧ Cm w a C.length C ∧ Cn w a C.length ∧ C.length ≤ cap ∧ cap ≤ maxLen ∧ (a = none → C.length = 0 ∧ cap = 0) := by
  obtain ⟨vals, hl, h0, hv⟩ := h
  obtain ⟨h1, h2⟩ := h0
  rcases h2 with ⟨rfl, hn⟩ | ⟨g, cap, cur, rfl, hb, hh, hc, hm, hz, hx⟩
  · exact ⟨none, 0, by rw [hn], ⟨rfl, Or.inl hn⟩, fun b off e => by simp at e, by omega, by simp [maxLen], fun _ => ⟨hn, rfl⟩⟩
  · have h0 : w.ownsRow base 51 2 (.slice (some ⟨g, 0, none⟩) C.length cap) C.length (encP vals) := ⟨h1, Or.inr ⟨g, cap, cur, rfl, hb, hh, hc, hm, hz, hx⟩⟩
    have hlt : g < w.heap.size := (Array.getElem?_eq_some_iff.1 hh).1
    have cells : ∀ i, i < C.length → w.cell? ⟨g, 0 + i * 2, none⟩ = some (vals.getD i vp0).1 ∧ w.cell? ⟨g, 0 + i * 2 + 1, none⟩ = some (vals.getD i vp0).2 := fun i hi => by
      refine ⟨?_, ?_⟩
      · rw [World.ownsRow.cellAt h0 (0 + i * 2) (by omega), Nat.zero_add, encP_fst vals i (by omega)]
      · rw [World.ownsRow.cellAt h0 (0 + i * 2 + 1) (by omega), Nat.zero_add, encP_snd vals i (by omega)]
    refine ⟨_, cap, rfl, ⟨rfl, Or.inr ⟨g, 0, rfl, hlt, fun i hi => ?_⟩⟩, ?_, hc, hm, fun h => by simp at h⟩
    · obtain ⟨k1, k2⟩ := cells i hi
      obtain ⟨o1, o2, o3, o4⟩ := hv i hi
      obtain ⟨a1, c1, e1, r1, _⟩ := o1.rd
      obtain ⟨a2, c2, e2, r2, _⟩ := o2.ri
      exact ⟨a1, _, c1, a2, _, c2, by rw [k1, e1], by rw [k2, e2], r1, r2, by omega, by omega⟩
    · intro b off e i hi x m c hor hx
      cases e
      obtain ⟨k1, k2⟩ := cells i hi
      obtain ⟨o1, o2, _⟩ := hv i hi
      rcases hor with hcc | hcc
      · have hcc := Option.some.inj (k1.symm.trans hcc)
        unfold Own at o1
        rw [hcc] at o1
        exact own_nil o1 hx
      · have hcc := Option.some.inj (k2.symm.trans hcc)
        unfold OwnI at o2
        rw [hcc] at o2
        exact own_nil o2 hx

/-- A repo that is the call's own. -/
def RepoOwn (w : World) (base : Nat) (v : Value) (C : List M.Com) (H : List M.Hd) : Prop := ∃ x y, v = .agg #[x, y] ∧ OwnK w base x C ∧ OwnH w base y H
theorem RepoOwn.none (w : World) (base : Nat) : RepoOwn w base (.agg #[.slice none 0 0, .slice none 0 0]) [] [] := ⟨_, _, rfl, OwnK.nil _ _, OwnH.nil _ _⟩
theorem RepoOwn.later {w w' : World} {base : Nat} {v : Value} {C : List M.Com} {H : List M.Hd} (h : RepoOwn w base v C H) (hb : Below w.heap.size w w') : RepoOwn w' base v C H := by
  obtain ⟨x, y, e, h1, h2⟩ := h
  exact ⟨x, y, e, h1.later hb, h2.later hb⟩
theorem RepoOwn.lower {w : World} {base base' : Nat} {v : Value} {C : List M.Com} {H : List M.Hd} (h : RepoOwn w base v C H) (hb : base' ≤ base) : RepoOwn w base' v C H := by
  obtain ⟨x, y, e, h1, h2⟩ := h
  exact ⟨x, y, e, h1.lower hb, h2.lower hb⟩
/-- What may be read of a repo. -/
structure RepoV (w : World) (a : Option Addr) (n cap : Nat) (C : List M.Com) (a2 : Option Addr) (n2 cap2 : Nat) (H : List M.Hd) : Prop where
  cm : Cm w a n C
  cn : Cn w a n
  nm : n ≤ 9223372036854775807
  hs : Hs w a2 n2 H
  hm : n2 ≤ 9223372036854775807
  hn : a2 = none → n2 = 0 ∧ cap2 = 0
theorem RepoV.later {w w' : World} {a : Option Addr} {n cap : Nat} {C : List M.Com} {a2 : Option Addr} {n2 cap2 : Nat} {H : List M.Hd} (h : RepoV w a n cap C a2 n2 cap2 H) (hb : Below w.heap.size w w') : RepoV w' a n cap C a2 n2 cap2 H := by
  refine ⟨h.cm.below hb (Nat.le_refl _), ?_, h.nm, h.hs.below hb (Nat.le_refl _), h.hm, h.hn⟩
  intro b off e i hi x m c hor hx
  rcases h.cm.cases with ⟨h0, _⟩ | ⟨b', off', e', _, _, hB, _⟩
  · omega
  · rw [e] at e'
    cases e'
    refine h.cn b off e i hi x m c ?_ hx
    rw [hb.cell (p := ⟨b, off + i * 2, none⟩) hB, hb.cell (p := ⟨b, off + i * 2 + 1, none⟩) hB] at hor
    exact hor
theorem RepoOwn.v {w : World} {base : Nat} {v : Value} {C : List M.Com} {H : List M.Hd} (h : RepoOwn w base v C H) : ∃ a cap a2 cap2, v = .agg #[.slice a C.length cap, .slice a2 H.length cap2] ∧ RepoV w a C.length cap C a2 H.length cap2 H := by
  obtain ⟨x, y, e, h1, h2⟩ := h
  obtain ⟨a, cap, rfl, k1, k2, k3, k4, _⟩ := h1.cm
  obtain ⟨a2, cap2, rfl, l1, l2, l3, l4⟩ := h2.hs
  exact ⟨a, cap, a2, cap2, e, ⟨k1, k2, by unfold maxLen at k4; omega, l1, by unfold maxLen at l3; omega, l4⟩⟩
end Go.Proofs.YtcgpgflnihjpiafGreat

/- The reader of bytes: take, Byte, Pair, Text. -/
namespace Go.Proofs.YtcgpgflnihjpiafGreat
open Go.RowKit

/-- All but the block b is as it was. -/
def But (b : Nat) (w w' : World) : Prop := w.grownBy w' (some b)
theorem But.refl (b : Nat) (w : World) : But b w w := ⟨rfl, rfl, rfl, Nat.le_refl _, fun _ _ _ => rfl⟩
theorem But.trans {b : Nat} {w1 w2 w3 : World} (h : But b w1 w2) (k : But b w2 w3) : But b w1 w3 :=
  ⟨k.os.trans h.os, k.tape.trans h.tape, k.output.trans h.output, Nat.le_trans h.size k.size, fun i hi hne => (k.block i (Nat.lt_of_lt_of_le hi h.size) hne).trans (h.block i hi hne)⟩
theorem But.below {b : Nat} {w w' : World} (h : But b w w') (hb : b ≤ w.heap.size) : Below b w w' := ⟨h.os, h.tape, h.output, h.size, fun k hk => h.block k (by omega) (fun e => by cases e; omega)⟩
theorem But.of {b : Nat} {w w' : World} (h : Below w.heap.size w w') : But b w w' := ⟨h.os, h.tape, h.output, h.size, fun k hk _ => h.block k hk⟩
theorem But.set (b o : Nat) (w : World) (v : Value) : But b w (w.setCell ⟨b, o, none⟩ v) := grownBy_set w ⟨b, o, none⟩ v
/-- What is left to be read lies in the block b. -/
def RdAt (w : World) (b : Nat) (l : M.By) : Prop := w.heap[b]? = some (.cells #[.string (M.str l)] 147 (0, 0)) ∧ l.length ≤ 9223372036854775807
theorem RdAt.cell {w : World} {b : Nat} {l : M.By} (h : RdAt w b l) : w.cell? ⟨b, 0, none⟩ = some (.string (M.str l)) := by rw [cell_of_row _ _ _ _ _ _ h.1]; rfl
theorem RdAt.fr {w : World} {b : Nat} {l : M.By} (h : RdAt w b l) : w.frozen? ⟨b, 0, none⟩ = false := frozen_of_row _ _ _ _ _ h.1
theorem RdAt.lt {w : World} {b : Nat} {l : M.By} (h : RdAt w b l) : b < w.heap.size := (Array.getElem?_eq_some_iff.1 h.1).1
theorem RdAt.set {w : World} {b : Nat} {l : M.By} (h : RdAt w b l) (l' : M.By) (hl : l'.length ≤ l.length) : RdAt (w.setCell ⟨b, 0, none⟩ (.string (M.str l'))) b l' := ⟨by rw [heap_setCell_same _ _ _ _ _ _ h.1]; rfl, by have := h.2; omega⟩
theorem RdAt.later {w w' : World} {b : Nat} {l : M.By} (h : RdAt w b l) (hb : Below w.heap.size w w') : RdAt w' b l := ⟨(hb.block b h.lt).trans h.1, h.2⟩
/-- It ends too early. -/
def early : Ending := .panicked [{ v := .iface 29 (.int .i64 1), recovered := false }]

set_option maxHeartbeats 2000000 in
theorem take_any (b n : Nat) (l : M.By) (w : World) (h : RdAt w b l) :
    Calls Tryz.prog 129 #[.pointer (some ⟨b, 0, none⟩), .int .i64 (n : Int)] w fun e w' => But b w w' ∧ ((n ≤ l.length ∧ e = .returned (.string (M.str (l.take n))) ∧ RdAt w' b (l.drop n)) ∨ (l.length < n ∧ e = early)) := by
  obtain ⟨s, hs⟩ : ∃ s, s = M.str l := ⟨_, rfl⟩
  obtain ⟨m, hm⟩ : ∃ m, m = l.length := ⟨_, rfl⟩
  have hsz : s.size = m := by rw [hs, M.str_size, hm]
  have c0 := h.cell
  have f0 := h.fr
  rw [← hs] at c0
  by_cases hn : n ≤ l.length
  · have e1 : s.extract 0 n = M.str (l.take n) := by rw [hs, M.str_take]
    have e2 : s.extract n m = M.str (l.drop n) := by rw [hs, M.str_drop l n m hm]
    have h1 : decide ((m : Int) < (n : Int)) = false := by simp; omega
    have h2 : (n : Int) ≤ (m : Int) := by omega
    have HR : Hid (RdAt (w.setCell ⟨b, 0, none⟩ (.string (M.str (l.drop n)))) b (l.drop n)) := h.set _ (by simp)
    have HN : Hid (n ≤ l.length) := hn
    clear h hs hm hn
    go_enter Tryz.func129, Tryz.ntmps129
    go_wp2
    go_ret
    exact ⟨But.set _ _ _ _, Or.inl ⟨HN.out, rfl, HR.out⟩⟩
  · have h1 : decide ((m : Int) < (n : Int)) = true := by simp; omega
    have h2 : (m : Int) < (n : Int) := by omega
    have HN : Hid (l.length < n) := by unfold Hid; omega
    clear h hs hm hn
    go_enter Tryz.func129, Tryz.ntmps129
    go_wp2
    exact ⟨rfl, But.refl _ _, Or.inr ⟨HN.out, rfl⟩⟩

/-- What is read, and what is left. -/
def Reads {α : Type} (b : Nat) (w w' : World) (r : Option (α × M.By)) (val : α → Value → World → Prop) (e : Ending) : Prop :=
  But b w w' ∧ ((∃ x t v, r = some (x, t) ∧ e = .returned v ∧ val x v w' ∧ RdAt w' b t) ∨ (r = none ∧ e = early))
def isInt (k : Int) (v : Value) (_ : World) : Prop := v = .int .i64 k
def isStr (l : M.By) (v : Value) (_ : World) : Prop := v = .string (M.str l)

set_option maxHeartbeats 2000000 in
theorem byte_any (b : Nat) (l : M.By) (w : World) (h : RdAt w b l) :
    Calls Tryz.prog 109 #[.pointer (some ⟨b, 0, none⟩)] w fun e w' => Reads b w w' (M.rB l) isInt e := by
  have K : Hid (Calls Tryz.prog 129 #[.pointer (some ⟨b, 0, none⟩), .int .i64 1] w fun e w' => But b w w' ∧ ((1 ≤ l.length ∧ e = .returned (.string (M.str (l.take 1))) ∧ RdAt w' b (l.drop 1)) ∨ (l.length < 1 ∧ e = early))) := take_any b 1 l w h
  clear h
  cases l with
  | nil =>
    go_enter Tryz.func109, Tryz.ntmps109
    go_wp2_with fail
    refine K.out.mono ?_
    rintro e w1 ⟨hb, ⟨h1, _⟩ | ⟨_, rfl⟩⟩
    · simp at h1
    · unfold early
      go_wp2
      exact ⟨rfl, hb, Or.inr ⟨rfl, rfl⟩⟩
  | cons x t =>
    have e1 : M.str ((x :: t).take 1) = ⟨#[x]⟩ := rfl
    rw [e1] at K
    have hx : wrap64 (x.toNat : Int) = (x.toNat : Int) := by have := x.toNat_lt; unfold wrap64; omega
    have HX : Hid (wrap64 (x.toNat : Int) = (x.toNat : Int)) := hx
    clear hx
    go_enter Tryz.func109, Tryz.ntmps109
    go_wp2_with fail
    refine K.out.mono ?_
    rintro e w1 ⟨hb, ⟨_, rfl, hr⟩ | ⟨h1, _⟩⟩
    · have HR : Hid (RdAt w1 b t) := hr
      clear hr
      go_wp2
      go_ret
      exact ⟨hb, Or.inl ⟨_, t, _, rfl, rfl, congrArg (Value.int .i64) HX.out, HR.out⟩⟩
    · simp at h1
theorem M.rB_range {l t : M.By} {k : Int} (h : M.rB l = some (k, t)) : 0 ≤ k ∧ k < 256 := (M.rB_inv h).2
theorem M.r2_yes {l t u : M.By} {k j : Int} (h : M.rB l = some (k, t)) (h2 : M.rB t = some (j, u)) : M.r2 l = some (256 * k + j, u) := by
  match l, t, h, h2 with
  | x :: y :: v, _, h, h2 =>
    simp only [M.rB, Option.some.injEq, Prod.mk.injEq] at h
    obtain ⟨rfl, rfl⟩ := h
    simp only [M.rB, Option.some.injEq, Prod.mk.injEq] at h2
    obtain ⟨rfl, rfl⟩ := h2
    rfl
  | [x], _, h, h2 =>
    simp only [M.rB, Option.some.injEq, Prod.mk.injEq] at h
    obtain ⟨rfl, rfl⟩ := h
    simp [M.rB] at h2
  | [], _, h, _ => simp [M.rB] at h
theorem M.r2_no1 {l : M.By} (h : M.rB l = none) : M.r2 l = none := by
  cases l with
  | nil => rfl
  | cons x t => simp [M.rB] at h
theorem M.r2_no2 {l t : M.By} {k : Int} (h : M.rB l = some (k, t)) (h2 : M.rB t = none) : M.r2 l = none := by
  match l, h with
  | x :: y :: v, h =>
    simp only [M.rB, Option.some.injEq, Prod.mk.injEq] at h
    obtain ⟨rfl, rfl⟩ := h
    simp [M.rB] at h2
  | [x], _ => rfl
  | [], h => simp [M.rB] at h
theorem M.rT_yes {l t : M.By} {k : Int} (h : M.rB l = some (k, t)) : M.rT l = if k.toNat ≤ t.length then some (t.take k.toNat, t.drop k.toNat) else none := by
  cases l with
  | nil => simp [M.rB] at h
  | cons x u =>
    simp only [M.rB, Option.some.injEq, Prod.mk.injEq] at h
    obtain ⟨rfl, rfl⟩ := h
    rfl
theorem M.rT_no {l : M.By} (h : M.rB l = none) : M.rT l = none := by
  cases l with
  | nil => rfl
  | cons x t => simp [M.rB] at h

set_option maxHeartbeats 2000000 in
theorem pair_any (b : Nat) (l : M.By) (w : World) (h : RdAt w b l) :
    Calls Tryz.prog 130 #[.pointer (some ⟨b, 0, none⟩)] w fun e w' => Reads b w w' (M.r2 l) isInt e := by
  have K : Hid (Calls Tryz.prog 109 #[.pointer (some ⟨b, 0, none⟩)] w fun e w' => Reads b w w' (M.rB l) isInt e) := byte_any b l w h
  clear h
  go_enter Tryz.func130, Tryz.ntmps130
  go_wp2_with fail
  refine K.out.mono ?_
  rintro e w1 ⟨hb, ⟨k, t, v, h1, rfl, rfl, hr⟩ | ⟨h1, rfl⟩⟩
  · have K2 : Hid (Calls Tryz.prog 109 #[.pointer (some ⟨b, 0, none⟩)] w1 fun e w' => Reads b w1 w' (M.rB t) isInt e) := byte_any b t w1 hr
    have H1 : Hid (M.rB l = some (k, t)) := h1
    have hk := M.rB_range h1
    have hw : IntKind.i64.wrap (256 * k) = 256 * k := by rw [IntKind.wrap_i64]; omega
    clear h1 hr K
    go_wp2_with fail
    refine K2.out.mono ?_
    rintro e w2 ⟨hb2, ⟨j, u, v, h2, rfl, rfl, hr⟩ | ⟨h2, rfl⟩⟩
    · have H2 : Hid (M.rB t = some (j, u)) := h2
      have HR : Hid (RdAt w2 b u) := hr
      have hj := M.rB_range h2
      have hw2 : IntKind.i64.wrap (256 * k + j) = 256 * k + j := by rw [IntKind.wrap_i64]; omega
      clear h2 hr K2
      go_wp2
      go_ret
      exact ⟨hb.trans hb2, Or.inl ⟨_, u, _, M.r2_yes H1.out H2.out, rfl, rfl, HR.out⟩⟩
    · have H2 : Hid (M.rB t = none) := h2
      clear h2 K2
      unfold early
      go_wp2
      exact ⟨rfl, hb.trans hb2, Or.inr ⟨M.r2_no2 H1.out H2.out, rfl⟩⟩
  · have H1 : Hid (M.rB l = none) := h1
    clear h1 K
    unfold early
    go_wp2
    exact ⟨rfl, hb, Or.inr ⟨M.r2_no1 H1.out, rfl⟩⟩

set_option maxHeartbeats 2000000 in
theorem text_any (b : Nat) (l : M.By) (w : World) (h : RdAt w b l) :
    Calls Tryz.prog 110 #[.pointer (some ⟨b, 0, none⟩)] w fun e w' => Reads b w w' (M.rT l) isStr e := by
  have K : Hid (Calls Tryz.prog 109 #[.pointer (some ⟨b, 0, none⟩)] w fun e w' => Reads b w w' (M.rB l) isInt e) := byte_any b l w h
  clear h
  go_enter Tryz.func110, Tryz.ntmps110
  go_wp2_with fail
  refine K.out.mono ?_
  rintro e w1 ⟨hb, ⟨k, t, v, h1, rfl, rfl, hr⟩ | ⟨h1, rfl⟩⟩
  · have hk := M.rB_range h1
    obtain ⟨n, rfl⟩ : ∃ n : Nat, k = (n : Int) := ⟨k.toNat, by omega⟩
    have K2 : Hid (Calls Tryz.prog 129 #[.pointer (some ⟨b, 0, none⟩), .int .i64 (n : Int)] w1 fun e w' => But b w1 w' ∧ ((n ≤ t.length ∧ e = .returned (.string (M.str (t.take n))) ∧ RdAt w' b (t.drop n)) ∨ (t.length < n ∧ e = early))) := take_any b n t w1 hr
    have H1 : Hid (M.rT l = if n ≤ t.length then some (t.take n, t.drop n) else none) := M.rT_yes h1
    clear h1 hr K
    go_wp2_with fail
    refine K2.out.mono ?_
    rintro e w2 ⟨hb2, ⟨h2, rfl, hr⟩ | ⟨h2, rfl⟩⟩
    · have HR : Hid (RdAt w2 b (t.drop n)) := hr
      have H2 : Hid (n ≤ t.length) := h2
      clear h2 hr K2
      go_wp2
      go_ret
      exact ⟨hb.trans hb2, Or.inl ⟨_, _, _, by rw [H1.out, if_pos H2.out], rfl, rfl, HR.out⟩⟩
    · have H2 : Hid (t.length < n) := h2
      clear h2 K2
      unfold early
      go_wp2
      exact ⟨rfl, hb.trans hb2, Or.inr ⟨by rw [H1.out, if_neg (by have := H2.out; omega)], rfl⟩⟩
  · have H1 : Hid (M.rB l = none) := h1
    clear h1 K
    unfold early
    go_wp2
    exact ⟨rfl, hb, Or.inr ⟨M.rT_no H1.out, rfl⟩⟩
end Go.Proofs.YtcgpgflnihjpiafGreat

/- The reader of bytes: what it keeps. -/
namespace Go.Proofs.YtcgpgflnihjpiafGreat
open Go.RowKit

theorem But.alloc (b : Nat) (w : World) (o : Obj) : But b w (w.alloc o) := But.of ((Below.refl _ _).alloc (Nat.le_refl _) _)
theorem But.setNew {b R o : Nat} {w w1 : World} (h : But b w w1) (hR : w.heap.size ≤ R) (v : Value) : But b w (w1.setCell ⟨R, o, none⟩ v) :=
  ⟨h.os, h.tape, h.output, by simpa [World.setCell] using h.size, fun k hk hne => by rw [heap_setCell_other _ _ _ _ (by show k ≠ R; omega)]; exact h.block k hk hne⟩
theorem RdAt.other {w : World} {b R o : Nat} {l : M.By} (h : RdAt w b l) (hR : b ≠ R) (v : Value) : RdAt (w.setCell ⟨R, o, none⟩ v) b l := ⟨by rw [heap_setCell_other _ _ _ _ hR]; exact h.1, h.2⟩
theorem RdAt.grown {w w' : World} {b : Nat} {l : M.By} {g : Option Nat} (h : RdAt w b l) (hg : w.grownBy w' g) (hne : g ≠ some b) : RdAt w' b l := ⟨(hg.block b h.lt (fun e => hne e.symm)).trans h.1, h.2⟩
theorem ownsRow_but {w w' : World} {b base : Nat} {e : TypeId} {size : Nat} {v : Value} {n : Nat} {xs : List Value} (h : w.ownsRow base e size v n xs) (hb : But b w w') (hlt : b < base) : w'.ownsRow base e size v n xs := by
  obtain ⟨h1, h2⟩ := h
  refine ⟨h1, ?_⟩
  rcases h2 with h2 | ⟨g, cap, cur, hv, hg, hh, r⟩
  · exact Or.inl h2
  · exact Or.inr ⟨g, cap, cur, hv, hg, (hb.block g (Array.getElem?_eq_some_iff.1 hh).1 (fun e => by cases e; omega)).trans hh, r⟩
theorem But.then {b : Nat} {w w1 w2 : World} (h : But b w w1) (k : Below w.heap.size w1 w2) : But b w w2 :=
  ⟨k.os.trans h.os, k.tape.trans h.tape, k.output.trans h.output, Nat.le_trans h.size k.size, fun i hi hne => (k.block i hi).trans (h.block i hi hne)⟩
theorem RdAt.keep {w w' : World} {b B : Nat} {l : M.By} (h : RdAt w b l) (hb : Below B w w') (hlt : b < B) : RdAt w' b l := ⟨(hb.block b hlt).trans h.1, h.2⟩
theorem M.r2_range {l t : M.By} {k : Int} (h : M.r2 l = some (k, t)) : 0 ≤ k ∧ k < 65536 := (M.r2_inv h).2
end Go.Proofs.YtcgpgflnihjpiafGreat

/- The reference's small functions: within, isKey, RowsError, valueOf, FindOf. -/
namespace Go.Proofs.YtcgpgflnihjpiafGreat
open Go.RowKit

theorem within_yes (x lo hi : Int) (w : World) (h1 : lo ≤ x) (h2 : x ≤ hi) :
    Calls Tryz.prog 64 #[.int .i64 x, .int .i64 lo, .int .i64 hi] w fun e w' => e = .returned (.bool true) ∧ w' = w := by
  go_enter Tryz.func64, Tryz.ntmps64
  go_wp2
  go_ret
  exact ⟨rfl, rfl⟩
theorem within_no (x lo hi : Int) (w : World) (h : x < lo ∨ hi < x) :
    Calls Tryz.prog 64 #[.int .i64 x, .int .i64 lo, .int .i64 hi] w fun e w' => e = .returned (.bool false) ∧ w' = w := by
  by_cases h1 : lo ≤ x
  · have h2 : hi < x := by omega
    have hd : decide (x ≤ hi) = false := by simp; omega
    clear h
    go_enter Tryz.func64, Tryz.ntmps64
    go_wp2
    go_ret
    exact ⟨rfl, rfl⟩
  · have h2 : x < lo := by omega
    clear h h1
    go_enter Tryz.func64, Tryz.ntmps64
    go_wp2
    go_ret
    exact ⟨rfl, rfl⟩
theorem isKey_yes (x : Int) (w : World) (h1 : 0 ≤ x) (h2 : x ≤ 99) :
    Calls Tryz.prog 125 #[.int .i64 x] w fun e w' => e = .returned (.bool true) ∧ w' = w := by
  go_enter Tryz.func125, Tryz.ntmps125
  go_wp2_with (go_at_call 64; refine (within_yes _ _ _ _ h1 h2).mono ?_; rintro e w' ⟨rfl, rfl⟩)
  go_ret
  exact ⟨rfl, rfl⟩
theorem isKey_no (x : Int) (w : World) (h : x < 0 ∨ 99 < x) :
    Calls Tryz.prog 125 #[.int .i64 x] w fun e w' => e = .returned (.bool false) ∧ w' = w := by
  have H : Hid (x < 0 ∨ 99 < x) := h
  clear h
  go_enter Tryz.func125, Tryz.ntmps125
  go_wp2_with (go_at_call 64; refine (within_no _ _ _ _ H.out).mono ?_; rintro e w' ⟨rfl, rfl⟩)
  go_ret
  exact ⟨rfl, rfl⟩

theorem error_many (a : Option Addr) (n cap : Nat) (w : World) (h : 40 < n) (hm : n ≤ 9223372036854775807) :
    Calls Tryz.prog 126 #[.slice a n cap] w fun e w' => e = .returned (.int .i64 2) ∧ w' = w := by
  go_enter Tryz.func126, Tryz.ntmps126
  go_wp2
  go_ret
  exact ⟨rfl, rfl⟩

theorem error_none (a : Option Addr) (cap : Nat) (w : World) :
    Calls Tryz.prog 126 #[.slice a 0 cap] w fun e w' => e = .returned (.int .i64 0) ∧ w' = w := by
  go_enter Tryz.func126, Tryz.ntmps126
  go_wp2
  refine wp_loop_rounds 1 ?_
  rw [rounds_succ]
  go_wp2
  go_ret
  exact ⟨rfl, rfl⟩

set_option maxHeartbeats 2000000 in
theorem error_some (b off n cap : Nat) (l : List (Int × Int)) (w : World) (hn : n ≤ 40) (hl : l.length = n) (hB : b < w.heap.size)
    (hc : ∀ i, i < n → w.cell? ⟨b, off + i * 2, none⟩ = some (.int .i64 (l.getD i (0, 0)).1) ∧ w.cell? ⟨b, off + i * 2 + 1, none⟩ = some (.int .i64 (l.getD i (0, 0)).2)) :
    Calls Tryz.prog 126 #[.slice (some ⟨b, off, none⟩) n cap] w fun e w' => e = .returned (.int .i64 (M.chkFrom (-1) l)) ∧ Below w.heap.size w w' := by
  have HC : Aside (∀ i, i < n → w.cell? ⟨b, off + i * 2, none⟩ = some (.int .i64 (l.getD i (0, 0)).1) ∧ w.cell? ⟨b, off + i * 2 + 1, none⟩ = some (.int .i64 (l.getD i (0, 0)).2)) := hc
  have HL : Aside (l.length = n) := hl
  clear hc hl
  go_enter Tryz.func126, Tryz.ntmps126
  go_wp2
  go_loopg [3] n (fun g i wr => ∃ (k : Nat) (q : Int), k + g = n ∧ -1 ≤ q ∧ i = .int .i64 k ∧ Below w.heap.size w wr ∧ Aside (q = M.prev l k) ∧ Aside (M.chkFrom q (l.drop k) = M.chkFrom (-1) l))
  case atStart => exact ⟨0, -1, by omega, by omega, rfl, Below.refl _ _, rfl, by simp [Aside]⟩
  case round =>
    obtain ⟨k, q, hk, hq1, rfl, hbel, A, A2⟩ := hrel
    have hsz := hbel.size
    by_cases hlt : k < n
    · obtain ⟨x, y, hxy⟩ : ∃ x y, l.getD k (0, 0) = (x, y) := ⟨_, _, rfl⟩
      have c0 : wr.cell? ⟨b, off + k * 2, none⟩ = some (.int .i64 x) := by rw [hbel.cell (p := ⟨b, off + k * 2, none⟩) hB, (HC.out k hlt).1, hxy]
      have c1 : wr.cell? ⟨b, off + k * 2 + 1, none⟩ = some (.int .i64 y) := by rw [hbel.cell (p := ⟨b, off + k * 2 + 1, none⟩) hB, (HC.out k hlt).2, hxy]
      have HXY : Aside (l.getD k (0, 0) = (x, y)) := hxy
      clear hxy
      have hki : (k : Int) < (n : Int) := by omega
      by_cases g1 : 0 ≤ x ∧ x ≤ 99
      · obtain ⟨g1, g2⟩ := g1
        by_cases g3 : 0 ≤ y ∧ y ≤ 996
        · obtain ⟨g3, g4⟩ := g3
          by_cases h0 : k = 0
          · have hg : decide (0 < k) = false := by simp; omega
            have H0 : Hid (k = 0) := h0
            clear h0
            go_wp2_with fail
            go_quiet ((first | (go_at_call 125; exact Calls.quiet_of_same (isKey_yes _ _ g1 g2)) | (go_at_call 64; exact Calls.quiet_of_same (within_yes _ _ _ _ g3 g4))))
            go_wp2
            go_roundg (gk - 1)
            case measure => omega
            case rel => exact ⟨k + 1, x, by omega, by omega, by go_num, below_drewN hbel _, by show x = (l.getD _ (0, 0)).1; rw [HXY.out], by unfold Aside; rw [← A2.out, M.chkFrom_good q l k (by rw [HL.out]; exact hlt) x y HXY.out (by have e := A.out; rw [H0.out] at e; have : q = -1 := e; omega) (by omega) (by omega) (by omega)]⟩
          · obtain ⟨j, rfl⟩ : ∃ j, k = j + 1 := ⟨k - 1, by omega⟩
            have cj : wr.cell? ⟨b, off + j * 2, none⟩ = some (.int .i64 (l.getD j (0, 0)).1) := by rw [hbel.cell (p := ⟨b, off + j * 2, none⟩) hB, (HC.out j (by omega)).1]
            obtain ⟨z, hz⟩ : ∃ z, z = (l.getD j (0, 0)).1 := ⟨_, rfl⟩
            rw [← hz] at cj
            have HZ : Hid (z = (l.getD j (0, 0)).1) := hz
            clear hz h0
            by_cases h5 : x ≤ z
            · go_wp2_with fail
              go_quiet ((first | (go_at_call 125; exact Calls.quiet_of_same (isKey_yes _ _ g1 g2)) | (go_at_call 64; exact Calls.quiet_of_same (within_yes _ _ _ _ g3 g4))))
              go_wp2
              go_ret
              exact ⟨ret_int (A2.out.symm.trans (M.chkFrom_bad q l (j + 1) (by rw [HL.out]; exact hlt) x y HXY.out (by have e := A.out; have : q = z := e.trans HZ.out.symm; omega))).symm, below_drewN hbel _⟩
            · have hg : decide (x ≤ z) = false := by simp; omega
              go_wp2_with fail
              go_quiet ((first | (go_at_call 125; exact Calls.quiet_of_same (isKey_yes _ _ g1 g2)) | (go_at_call 64; exact Calls.quiet_of_same (within_yes _ _ _ _ g3 g4))))
              go_wp2
              go_roundg (gk - 1)
              case measure => omega
              case rel => exact ⟨j + 1 + 1, x, by omega, by omega, by go_num, below_drewN hbel _, by show x = (l.getD _ (0, 0)).1; rw [HXY.out], by unfold Aside; rw [← A2.out, M.chkFrom_good q l (j + 1) (by rw [HL.out]; exact hlt) x y HXY.out (by have e := A.out; have : q = z := e.trans HZ.out.symm; omega) (by omega) (by omega) (by omega)]⟩
        · have g3' : y < 0 ∨ 996 < y := by omega
          have G : Hid (y < 0 ∨ 996 < y) := g3'
          clear g3 g3'
          go_wp2_with fail
          go_quiet ((first | (go_at_call 125; exact Calls.quiet_of_same (isKey_yes _ _ g1 g2)) | (go_at_call 64; exact Calls.quiet_of_same (within_no _ _ _ _ G.out))))
          go_wp2
          go_ret
          exact ⟨ret_int (A2.out.symm.trans (M.chkFrom_bad q l k (by rw [HL.out]; exact hlt) x y HXY.out (by have := G.out; omega))).symm, below_drewN hbel _⟩
      · have g3' : x < 0 ∨ 99 < x := by omega
        have G : Hid (x < 0 ∨ 99 < x) := g3'
        clear g1 g3'
        go_wp2_with fail
        go_quiet ((go_at_call 125; exact Calls.quiet_of_same (isKey_no _ _ G.out)))
        go_wp2
        go_ret
        exact ⟨ret_int (A2.out.symm.trans (M.chkFrom_bad q l k (by rw [HL.out]; exact hlt) x y HXY.out (by have := G.out; omega))).symm, below_drewN hbel _⟩
    · go_wp2
      go_ret
      exact ⟨ret_int (A2.out.symm.trans (M.chkFrom_end q l k (by rw [HL.out]; omega))).symm, hbel⟩

theorem error_any (a : Option Addr) (n cap : Nat) (l : List (Int × Int)) (w : World) (h : Rd w a n l) (hm : n ≤ 9223372036854775807) :
    Calls Tryz.prog 126 #[.slice a n cap] w fun e w' => e = .returned (.int .i64 (M.chk l)) ∧ Below w.heap.size w w' := by
  by_cases h40 : 40 < n
  · refine (error_many a n cap w h40 hm).mono ?_
    rintro e w' ⟨rfl, rfl⟩
    exact ⟨by rw [M.chk_many l (by rw [h.1]; exact h40)], Below.refl _ _⟩
  · have e := M.chk_few l (by rw [h.1]; omega)
    rcases h.cases with ⟨rfl, rfl⟩ | ⟨b, off, rfl, hn, hl, hB, hc⟩
    · refine (error_none a cap w).mono ?_
      rintro e w' ⟨rfl, rfl⟩
      exact ⟨rfl, Below.refl _ _⟩
    · rw [e]
      exact error_some b off n cap l w (by omega) hl hB hc
end Go.Proofs.YtcgpgflnihjpiafGreat

/- rows.checkAsked, place, sort.Search. -/
namespace Go.Proofs.YtcgpgflnihjpiafGreat
open Go.RowKit


theorem asked_bad (a : Option Addr) (n cap : Nat) (l : List (Int × Int)) (key : Int) (w : World) (h : Rd w a n l) (hm : n ≤ 9223372036854775807) (hb : M.chk l ≠ 0) :
    Calls Tryz.prog 143 #[.slice a n cap, .int .i64 key] w fun e w' => e = .returned (.int .i64 (M.chk l)) ∧ Below w.heap.size w w' := by
  have H := check_any a n cap l w h hm
  obtain ⟨c, hc⟩ : ∃ c, c = M.chk l := ⟨_, rfl⟩
  rw [← hc] at H hb ⊢
  clear hc h
  have hne : (c != 0) = true := by simp [hb]
  clear hb
  have HH : Hid (Calls Tryz.prog 83 #[.slice a n cap] w fun e w' => e = .returned (.int .i64 c) ∧ Below w.heap.size w w') := H
  clear H
  go_enter Tryz.func143, Tryz.ntmps143
  go_wp2_with (go_at_call 83; refine HH.out.mono ?_; rintro e w' ⟨rfl, hb1⟩)
  go_ret
  exact ⟨rfl, hb1⟩

theorem asked_range (a : Option Addr) (n cap : Nat) (l : List (Int × Int)) (key : Int) (w : World) (h : Rd w a n l) (hm : n ≤ 9223372036854775807) (hb : M.chk l = 0) (hk : key < 0 ∨ 99 < key) :
    Calls Tryz.prog 143 #[.slice a n cap, .int .i64 key] w fun e w' => e = .returned (.int .i64 3) ∧ Below w.heap.size w w' := by
  have H := check_any a n cap l w h hm
  rw [hb] at H
  clear hb h
  have HH : Hid (Calls Tryz.prog 83 #[.slice a n cap] w fun e w' => e = .returned (.int .i64 0) ∧ Below w.heap.size w w') := H
  clear H
  rcases hk with hk | hk
  · go_enter Tryz.func143, Tryz.ntmps143
    go_wp2_with (go_at_call 83; refine HH.out.mono ?_; rintro e w' ⟨rfl, hb1⟩)
    go_ret
    exact ⟨rfl, hb1⟩
  · have hk0 : ¬ key < 0 := by omega
    go_enter Tryz.func143, Tryz.ntmps143
    go_wp2_with (go_at_call 83; refine HH.out.mono ?_; rintro e w' ⟨rfl, hb1⟩)
    go_ret
    exact ⟨rfl, hb1⟩

theorem asked_ok (a : Option Addr) (n cap : Nat) (l : List (Int × Int)) (key : Int) (w : World) (h : Rd w a n l) (hm : n ≤ 9223372036854775807) (hb : M.chk l = 0) (hk : 0 ≤ key) (hk2 : key ≤ 99) :
    Calls Tryz.prog 143 #[.slice a n cap, .int .i64 key] w fun e w' => e = .returned (.int .i64 0) ∧ Below w.heap.size w w' := by
  have H := check_any a n cap l w h hm
  rw [hb] at H
  clear hb h
  have HH : Hid (Calls Tryz.prog 83 #[.slice a n cap] w fun e w' => e = .returned (.int .i64 0) ∧ Below w.heap.size w w') := H
  clear H
  go_enter Tryz.func143, Tryz.ntmps143
  go_wp2_with (go_at_call 83; refine HH.out.mono ?_; rintro e w' ⟨rfl, hb1⟩)
  go_ret
  exact ⟨rfl, hb1⟩

/-- The function literal: does the i-th row's key come up to the key? -/
theorem lit_any (b off n cap : Nat) (key x : Int) (p q i : Nat) (w : World) (hi : i < n)
    (hp : w.cell? ⟨p, 0, none⟩ = some (.slice (some ⟨b, off, none⟩) n cap)) (hq : w.cell? ⟨q, 0, none⟩ = some (.int .i64 key))
    (hx : w.cell? ⟨b, off + i * 2, none⟩ = some (.int .i64 x)) :
    Calls Tryz.prog 157 #[.int .i64 i, .pointer (some ⟨p, 0, none⟩), .pointer (some ⟨q, 0, none⟩)] w fun e w' => e = .returned (.bool (decide (key ≤ x))) ∧ ∃ m, w' = w.drewN m := by
  have hki : (i : Int) < (n : Int) := by omega
  go_enter Tryz.func157, Tryz.ntmps157
  go_wp2_with fail
  go_quiet (fail)
  go_wp2
  go_ret
  exact ⟨rfl, _, rfl⟩

set_option maxHeartbeats 1000000 in
theorem search_some (b off n cap : Nat) (l : List (Int × Int)) (key : Int) (p q : Nat) (w : World) (hn : n ≤ 40)
    (hp : w.cell? ⟨p, 0, none⟩ = some (.slice (some ⟨b, off, none⟩) n cap)) (hq : w.cell? ⟨q, 0, none⟩ = some (.int .i64 key))
    (hc : ∀ i, i < n → w.cell? ⟨b, off + i * 2, none⟩ = some (.int .i64 (l.getD i (0, 0)).1))
    (hs : ∀ i j, i ≤ j → j < n → (l.getD i (0, 0)).1 ≤ (l.getD j (0, 0)).1) :
    Calls Tryz.prog 156 #[.int .i64 n, .func (Fn.func 157) #[] #[.pointer (some ⟨p, 0, none⟩), .pointer (some ⟨q, 0, none⟩)]] w
      fun e w' => (∃ k : Nat, e = .returned (.int .i64 k) ∧ k ≤ n ∧ (∀ i, i < k → (l.getD i (0, 0)).1 < key) ∧ (k < n → key ≤ (l.getD k (0, 0)).1)) ∧ ∃ m, w' = w.drewN m := by
  have HC : Aside (∀ i, i < n → w.cell? ⟨b, off + i * 2, none⟩ = some (.int .i64 (l.getD i (0, 0)).1)) := hc
  have HS : Aside (∀ i j, i ≤ j → j < n → (l.getD i (0, 0)).1 ≤ (l.getD j (0, 0)).1) := hs
  have HP : Aside (w.cell? ⟨p, 0, none⟩ = some (.slice (some ⟨b, off, none⟩) n cap)) := hp
  have HQ : Aside (w.cell? ⟨q, 0, none⟩ = some (.int .i64 key)) := hq
  clear hc hs hp hq
  go_enter Tryz.func156, Tryz.ntmps156
  go_wp2
  go_loopg [5, 6] n (fun g vi vj wr => ∃ i j m : Nat, i ≤ j ∧ j ≤ n ∧ j - i ≤ g ∧ vi = .int .i64 i ∧ vj = .int .i64 j ∧ wr = w.drewN m ∧ Aside (∀ t, t < i → (l.getD t (0, 0)).1 < key) ∧ Aside (j < n → key ≤ (l.getD j (0, 0)).1))
  case atStart => exact ⟨0, n, 0, by omega, by omega, by omega, rfl, rfl, rfl, fun t h => by omega, fun h => by omega⟩
  case round =>
    obtain ⟨i, j, m, hij, hj, hg, rfl, rfl, rfl, A, A2⟩ := hrel
    by_cases hlt : i < j
    · obtain ⟨h, hh⟩ : ∃ h : Nat, h = (i + j) / 2 := ⟨_, rfl⟩
      have e1 : ((i : Int) + (j : Int)) / 2 = (h : Int) := by omega
      have h1 : i ≤ h := by omega
      have h2 : h < j := by omega
      clear hh
      have E1 : Hid (((i : Int) + (j : Int)) / 2 = (h : Int)) := e1
      clear e1
      obtain ⟨x, hx⟩ : ∃ x, x = (l.getD h (0, 0)).1 := ⟨_, rfl⟩
      have HX : Aside (x = (l.getD h (0, 0)).1) := hx
      have cx : (w.drewN m).cell? ⟨b, off + h * 2, none⟩ = some (.int .i64 x) := by rw [hx]; exact HC.out h (by omega)
      clear hx
      have cp : (w.drewN m).cell? ⟨p, 0, none⟩ = some (.slice (some ⟨b, off, none⟩) n cap) := HP.out
      have cq : (w.drewN m).cell? ⟨q, 0, none⟩ = some (.int .i64 key) := HQ.out
      have L := lit_any b off n cap key x p q h (w.drewN m) (by omega) cp cq cx
      have LH : Hid (Calls Tryz.prog 157 #[.int .i64 h, .pointer (some ⟨p, 0, none⟩), .pointer (some ⟨q, 0, none⟩)] (w.drewN m) fun e w' => e = .returned (.bool (decide (key ≤ x))) ∧ ∃ m', w' = (w.drewN m).drewN m') := L
      clear L cx cp cq
      by_cases hkx : key ≤ x
      · have hkd : decide (key ≤ x) = true := by simp [hkx]
        go_wp2_with fail
        rw [E1.out]
        refine LH.out.mono ?_
        rintro e w' ⟨rfl, m', rfl⟩
        go_wp2
        go_roundg (h - i)
        case measure => omega
        case rel => exact ⟨i, h, m + m', by omega, by omega, by omega, rfl, by go_num, rfl, A, fun _ => by rw [← HX.out]; exact hkx⟩
      · have hkd : decide (key ≤ x) = false := by simp [hkx]
        go_wp2_with fail
        rw [E1.out]
        refine LH.out.mono ?_
        rintro e w' ⟨rfl, m', rfl⟩
        go_wp2
        go_roundg (j - (h + 1))
        case measure => omega
        case rel => exact ⟨h + 1, j, m + m', by omega, by omega, by omega, by go_num, rfl, rfl, fun t ht => by have := HS.out t h (by omega) (by omega); have := HX.out; omega, A2⟩
    · go_wp2
      go_ret
      have : i = j := by omega
      subst this
      exact ⟨⟨i, rfl, hj, A.out, A2.out⟩, m, rfl⟩

set_option maxHeartbeats 1000000 in
theorem place_some (b off n cap : Nat) (l : List (Int × Int)) (key : Int) (w : World) (hn : n ≤ 40) (hB : b < w.heap.size)
    (hc : ∀ i, i < n → w.cell? ⟨b, off + i * 2, none⟩ = some (.int .i64 (l.getD i (0, 0)).1))
    (hs : ∀ i j, i ≤ j → j < n → (l.getD i (0, 0)).1 ≤ (l.getD j (0, 0)).1) :
    Calls Tryz.prog 144 #[.slice (some ⟨b, off, none⟩) n cap, .int .i64 key] w
      fun e w' => (∃ (k : Nat) (t : Bool), e = .returned (.tuple #[.int .i64 k, .bool t]) ∧ k ≤ n ∧ (∀ i, i < k → (l.getD i (0, 0)).1 < key) ∧ (k < n → key ≤ (l.getD k (0, 0)).1) ∧ (t = true ↔ k < n ∧ (l.getD k (0, 0)).1 = key)) ∧ Below w.heap.size w w' := by
  obtain ⟨W, hW⟩ : ∃ W, W = (w.alloc (.cells #[.slice (some ⟨b, off, none⟩) n cap] 49)).alloc (.cells #[.int .i64 key] 3) := ⟨_, rfl⟩
  have hbW : Below w.heap.size w W := by rw [hW]; exact ((Below.refl _ _).alloc (Nat.le_refl _) _).alloc (by simp) _
  have cW : ∀ i, i < n → W.cell? ⟨b, off + i * 2, none⟩ = some (.int .i64 (l.getD i (0, 0)).1) := fun i hi => (hbW.cell (p := ⟨b, off + i * 2, none⟩) hB).trans (hc i hi)
  have cp : W.cell? ⟨w.heap.size, 0, none⟩ = some (.slice (some ⟨b, off, none⟩) n cap) := by rw [hW]; simp [go_sem]
  have cq : W.cell? ⟨w.heap.size + 1, 0, none⟩ = some (.int .i64 key) := by rw [hW]; simp [go_sem]
  have S := search_some b off n cap l key w.heap.size (w.heap.size + 1) W hn cp cq cW hs
  have SH : Hid (Calls Tryz.prog 156 #[.int .i64 n, .func (Fn.func 157) #[] #[.pointer (some ⟨w.heap.size, 0, none⟩), .pointer (some ⟨w.heap.size + 1, 0, none⟩)]] W
      fun e w' => (∃ k : Nat, e = .returned (.int .i64 k) ∧ k ≤ n ∧ (∀ i, i < k → (l.getD i (0, 0)).1 < key) ∧ (k < n → key ≤ (l.getD k (0, 0)).1)) ∧ ∃ m, w' = W.drewN m) := S
  have HW : Hid (W = (w.alloc (.cells #[.slice (some ⟨b, off, none⟩) n cap] 49)).alloc (.cells #[.int .i64 key] 3)) := hW
  have CW : Hid (∀ i, i < n → W.cell? ⟨b, off + i * 2, none⟩ = some (.int .i64 (l.getD i (0, 0)).1)) := cW
  clear S hW hc hs cW
  go_enter Tryz.func144, Tryz.ntmps144
  go_wp2_with fail
  rw [← HW.out]
  refine SH.out.mono ?_
  rintro e w' ⟨⟨k, rfl, hk, h1, h2⟩, m, rfl⟩
  have H12 : Hid ((∀ i, i < k → (l.getD i (0, 0)).1 < key) ∧ (k < n → key ≤ (l.getD k (0, 0)).1)) := ⟨h1, h2⟩
  clear h1 h2
  have hbm := below_drewN hbW m
  by_cases hkn : k < n
  · obtain ⟨x, hx⟩ : ∃ x, x = (l.getD k (0, 0)).1 := ⟨_, rfl⟩
    have cx : W.cell? ⟨b, off + k * 2, none⟩ = some (.int .i64 x) := by rw [hx]; exact CW.out k hkn
    have HX : Hid (x = (l.getD k (0, 0)).1) := hx
    clear hx
    have hki : (k : Int) < (n : Int) := by omega
    go_wp2_with fail
    go_quiet (fail)
    go_wp2
    go_ret2
    exact ⟨⟨k, (x == key), rfl, hk, H12.out.1, H12.out.2, by rw [← HX.out]; simp [hkn]⟩, below_drewN hbm _⟩
  · have hd : decide (k < n) = false := by simp; omega
    go_wp2_with fail
    go_quiet (fail)
    go_wp2
    go_ret2
    exact ⟨⟨k, false, rfl, hk, H12.out.1, H12.out.2, by simp; omega⟩, below_drewN hbm _⟩

theorem search_none (f : Value) (w : World) :
    Calls Tryz.prog 156 #[.int .i64 0, f] w fun e w' => e = .returned (.int .i64 0) ∧ w' = w := by
  go_enter Tryz.func156, Tryz.ntmps156
  go_wp2
  refine wp_loop_rounds 1 ?_
  rw [rounds_succ]
  go_wp2
  go_ret
  exact ⟨rfl, rfl⟩

theorem place_none (a : Option Addr) (cap : Nat) (key : Int) (w : World) :
    Calls Tryz.prog 144 #[.slice a 0 cap, .int .i64 key] w fun e w' => e = .returned (.tuple #[.int .i64 0, .bool false]) ∧ Below w.heap.size w w' := by
  go_enter Tryz.func144, Tryz.ntmps144
  go_wp2_with fail
  refine (search_none _ _).mono ?_
  rintro e w' ⟨rfl, rfl⟩
  go_wp2_with fail
  go_quiet (fail)
  go_wp2
  go_ret2
  exact ⟨rfl, below_drewN (((Below.refl _ _).alloc (Nat.le_refl _) _).alloc (by simp) _) _⟩

theorem place_any (a : Option Addr) (n cap : Nat) (l : List (Int × Int)) (key : Int) (w : World) (h : Rd w a n l) (h0 : M.chk l = 0) :
    Calls Tryz.prog 144 #[.slice a n cap, .int .i64 key] w
      fun e w' => ∃ (k : Nat) (t : Bool), e = .returned (.tuple #[.int .i64 k, .bool t]) ∧ M.At l key k t ∧ Below w.heap.size w w' := by
  have hz := (M.chk_zero l).1 h0
  rcases h.cases with ⟨rfl, rfl⟩ | ⟨b, off, rfl, hn, hl, hB, hc⟩
  · refine (place_none a cap key w).mono ?_
    rintro e w' ⟨rfl, hb⟩
    exact ⟨0, false, rfl, ⟨by simp, fun i hi => by omega, fun h => by simp at h, by simp⟩, hb⟩
  · refine (place_some b off n cap l key w (by rw [← hl]; exact hz.1) hB (fun i hi => (hc i hi).1) (fun i j hij hj => hz.2.mono i j hij (by omega))).mono ?_
    rintro e w' ⟨⟨k, t, rfl, h1, h2, h3, h4⟩, hb⟩
    exact ⟨k, t, rfl, ⟨by omega, h2, fun h => h3 (by omega), by rw [hl]; exact h4⟩, hb⟩

theorem asked_any (a : Option Addr) (n cap : Nat) (l : List (Int × Int)) (key : Int) (w : World) (h : Rd w a n l) (hm : n ≤ 9223372036854775807) :
    Calls Tryz.prog 143 #[.slice a n cap, .int .i64 key] w fun e w' => e = .returned (.int .i64 (M.asked l key)) ∧ Below w.heap.size w w' := by
  by_cases hb : M.chk l = 0
  · by_cases hk : key < 0 ∨ 99 < key
    · rw [M.asked_range hb hk]; exact asked_range a n cap l key w h hm hb hk
    · rw [M.asked_ok hb (by omega) (by omega)]; exact asked_ok a n cap l key w h hm hb (by omega) (by omega)
  · rw [M.asked_bad hb]; exact asked_bad a n cap l key w h hm hb

end Go.Proofs.YtcgpgflnihjpiafGreat

/- slices.Grow at nil; slices.Concat. -/
namespace Go.Proofs.YtcgpgflnihjpiafGreat
open Go.RowKit

set_option maxHeartbeats 1000000 in
theorem grow_some (n : Nat) (w : World) (h0 : 0 < n) (hn : n ≤ 1000000) :
    Calls Tryz.prog 160 #[.slice none 0 0, .int .i64 n] w fun e w' => ∃ v, e = .returned v ∧ Own w' w.heap.size v [] ∧ Below w.heap.size w w' := by
  obtain ⟨i0, hi, hz0, hz1, hz2⟩ := info_parts infoRow
  have hrz := fun ty => Lib.run_append_nil_zeros (P := Tryz.prog) w 49 3 ty 98 i0 _ .i64 .i64 Tryz.underlying49 Tryz.underlying3 hi hz0 n h0 (by omega) (by omega) (by rw [hz2]; omega)
  have hGn : n ≤ grownCap w n 0 98 := grownCap_ge w _ _ _
  obtain ⟨G, hG⟩ : ∃ G, G = grownCap w n 0 98 := ⟨_, rfl⟩
  have hG63 : G ≤ maxLen := by rw [hG]; exact grownCap_le_maxLen w n 0 98 (by unfold maxLen; omega)
  rw [← hG] at hrz hGn
  obtain ⟨C, hC⟩ : ∃ C, C = Builtin.zeroCells (Value.agg #[.int .i64 0, .int .i64 0]).cells n ++ Builtin.zeroCells (Value.agg #[.int .i64 0, .int .i64 0]).cells (G - n) := ⟨_, rfl⟩
  rw [← hC] at hrz
  have hCs : C.size = G * 2 := by rw [hC]; simp [Builtin.zeroCells, Value.cells]; omega
  have hown := World.ownsRow_made (base := w.heap.size) (e := 98) (size := 2) w.drew C G (Nat.le_refl _) hG63 hCs
  unfold maxLen at hG63
  have HO : Hid ((w.drew.alloc (.cells C 98)).ownsRow w.heap.size 98 2 (.slice (some ⟨w.heap.size, 0, none⟩) 0 G) 0 []) := hown
  have HR : Hid (∀ ty, (Builtin.append_ #[49, 3] ty #[.slice none 0 0, .int .i64 n]).run Tryz.prog w = .ok (.slice (some ⟨w.heap.size, 0, none⟩) n G) (w.drew.alloc (.cells C 98))) := hrz
  clear hC hG hrz hCs hown hi hz0 hz1 hz2
  go_enter Tryz.func160, Tryz.ntmps160
  go_wp2_with (at_builtin; refine Lib.wpList_append_run _ rfl _ _ _ _ rfl _ _ rfl rfl _ _ (HR.out _) ?_)
  go_ret
  exact ⟨_, rfl, HO.out, (Below.refl _ _).drew.alloc (Nat.le_refl _) _⟩

theorem grow_none (w : World) :
    Calls Tryz.prog 160 #[.slice none 0 0, .int .i64 0] w fun e w' => ∃ v, e = .returned v ∧ Own w' w.heap.size v [] ∧ Below w.heap.size w w' := by
  go_enter Tryz.func160, Tryz.ntmps160
  go_wp2
  go_ret
  exact ⟨_, rfl, World.ownsRow_nil _ _ _ _, Below.refl _ _⟩

theorem grow_any (n : Nat) (w : World) (hn : n ≤ 1000000) :
    Calls Tryz.prog 160 #[.slice none 0 0, .int .i64 n] w fun e w' => ∃ v, e = .returned v ∧ Own w' w.heap.size v [] ∧ Below w.heap.size w w' := by
  by_cases h : n = 0
  · subst h; exact grow_none w
  · exact grow_some n w (by omega) hn

/-- Several slices of rows, side by side in memory. -/
def Rds (w : World) (b off k : Nat) (A : Nat → Option Addr) (C : Nat → Nat) (LL : List (List (Int × Int))) : Prop :=
  LL.length = k ∧ b < w.heap.size ∧ ∀ i, i < k → w.cell? ⟨b, off + i, none⟩ = some (.slice (A i) (LL.getD i []).length (C i)) ∧ Rd w (A i) (LL.getD i []).length (LL.getD i []) ∧ (A i = none → (LL.getD i []).length = 0 ∧ C i = 0)

theorem Rds.below {w w' : World} {b off k : Nat} {A : Nat → Option Addr} {C : Nat → Nat} {LL : List (List (Int × Int))} (h : Rds w b off k A C LL) {B : Nat} (hb : Below B w w') (hB : w.heap.size ≤ B) : Rds w' b off k A C LL := by
  obtain ⟨h1, h2, h3⟩ := h
  refine ⟨h1, Nat.lt_of_lt_of_le h2 hb.size, fun i hi => ⟨?_, (h3 i hi).2.1.below hb hB, (h3 i hi).2.2⟩⟩
  rw [hb.cell (p := ⟨b, off + i, none⟩) (by show b < B; omega)]
  exact (h3 i hi).1

set_option maxHeartbeats 2000000 in
theorem concat_any (b off k cap : Nat) (A : Nat → Option Addr) (C : Nat → Nat) (LL : List (List (Int × Int))) (w : World) (hk : k ≤ 1000) (hR : Rds w b off k A C LL) (hbig : LL.flatten.length ≤ 1000000) :
    Calls Tryz.prog 148 #[.slice (some ⟨b, off, none⟩) k cap] w fun e w' => ∃ v, e = .returned v ∧ Own w' w.heap.size v LL.flatten ∧ Below w.heap.size w w' := by
  have HR : Aside (Rds w b off k A C LL) := hR
  clear hR
  have HBig : Aside (LL.flatten.length ≤ 1000000) := hbig
  clear hbig
  go_enter Tryz.func148, Tryz.ntmps148
  go_wp2
  go_loopg [3, 11] k (fun g s i wr => ∃ j q : Nat, j + g = k ∧ i = .int .i64 j ∧ s = .int .i64 q ∧ w = wr ∧ Aside (q = (LL.take j).flatten.length))
  case atStart => exact ⟨0, 0, by omega, rfl, rfl, rfl, rfl⟩
  case round =>
    obtain ⟨j, q, hj, rfl, rfl, rfl, HQ⟩ := hrel
    by_cases hlt : j < k
    · have c := (HR.out.2.2 j hlt).1
      obtain ⟨m, hm⟩ : ∃ m, m = (LL.getD j []).length := ⟨_, rfl⟩
      rw [← hm] at c
      have e1 : q + m = (LL.take (j + 1)).flatten.length := by rw [flat_take LL j (by rw [HR.out.1]; exact hlt), List.length_append, HQ.out, hm]
      have e2 : q + m ≤ 1000000 := by rw [e1]; exact Nat.le_trans (flat_le LL (j + 1)) HBig.out
      have E1 : Aside (q + m = (LL.take (j + 1)).flatten.length) := e1
      clear e1 hm
      go_wp2
      go_roundg (gk - 1)
      case measure => omega
      case rel => exact ⟨j + 1, q + m, by omega, by go_num, by go_num, rfl, E1⟩
    · obtain rfl : j = k := by omega
      have e2 : q ≤ 1000000 := by rw [HQ.out]; exact Nat.le_trans (flat_le LL j) HBig.out
      go_wp2_with fail
      refine (grow_any q _ e2).mono ?_
      rintro e w1 ⟨v, rfl, hown, hb1⟩
      have HO : Aside (Own w1 w.heap.size v []) := hown
      clear hown
      go_wp2_with fail
      go_loopg [6, 27] j (fun g s i ws => ∃ t : Nat, t + g = j ∧ i = .int .i64 t ∧ Aside (Own ws w.heap.size s (LL.take t).flatten) ∧ Below w.heap.size w ws)
      case atStart => exact ⟨0, by omega, rfl, HO, hb1⟩
      case round =>
        obtain ⟨t, ht, rfl, HT, hb2⟩ := hrel
        by_cases hlt2 : t < j
        · have R2 := HR.out.below hb2 (Nat.le_refl _)
          obtain ⟨c, r2, hnil⟩ := R2.2.2 t hlt2
          obtain ⟨l2, hl2⟩ : ∃ l2, l2 = LL.getD t [] := ⟨_, rfl⟩
          rw [← hl2] at c r2 hnil
          obtain ⟨m, hm⟩ : ∃ m, m = l2.length := ⟨_, rfl⟩
          rw [← hm] at c r2 hnil
          have e1 : (LL.take (t + 1)).flatten = (LL.take t).flatten ++ l2 := by rw [flat_take LL t (by rw [HR.out.1]; exact hlt2), hl2]
          have e3 : (LL.take t).flatten.length + m ≤ 1000000 := by
            have h3 := flat_le LL (t + 1)
            rw [e1, List.length_append, ← hm] at h3
            exact Nat.le_trans h3 HBig.out
          have E1 : Aside ((LL.take (t + 1)).flatten = (LL.take t).flatten ++ l2) := e1
          have E3 : Aside ((LL.take t).flatten.length + m ≤ 1000000) := e3
          have HR2 : Aside (Rd wr (A t) m l2) := r2
          have HN : Aside (A t = none → m = 0 ∧ C t = 0) := hnil
          clear e1 e3 hm hl2 R2 r2 hnil
          go_wp2_with (at_builtin; refine append_rd rfl _ _ rfl w.heap.size _ (LL.take t).flatten rfl HT.out (A t) m (C t) l2 rfl HR2.out HN.out E3.out hb2.size ?_)
          intro v' w' ho' hb3
          have HO' : Aside (Own w' w.heap.size v' ((LL.take t).flatten ++ l2)) := ho'
          have hb4 := hb2.trans hb3
          clear ho' hb3
          go_wp2
          go_roundg (gk - 1)
          case measure => omega
          case rel => exact ⟨t + 1, by omega, by go_num, by unfold Aside; rw [E1.out]; exact HO'.out, hb4⟩
        · obtain rfl : t = j := by omega
          have e1 : (LL.take t).flatten = LL.flatten := by rw [List.take_of_length_le (by rw [HR.out.1]; omega)]
          have E1 : Aside ((LL.take t).flatten = LL.flatten) := e1
          clear e1
          go_wp2
          go_ret
          exact ⟨_, rfl, by have h5 := HT.out; rw [E1.out] at h5; exact h5, hb2⟩
end Go.Proofs.YtcgpgflnihjpiafGreat

/- Plain facts on rows in which a key is put. -/
namespace Go.Proofs.YtcgpgflnihjpiafGreat.M

/-- The rows in which a key has a value, or, of -1, is not there. -/
def own (key val : Int) : List (Int × Int) := if val = -1 then [] else [(key, val)]
def lows (key : Int) (l : List (Int × Int)) : List (Int × Int) := l.filter fun r => decide (r.1 < key)
def highs (key : Int) (l : List (Int × Int)) : List (Int × Int) := l.filter fun r => decide (key < r.1)
def put (key val : Int) (l : List (Int × Int)) : List (Int × Int) := lows key l ++ own key val ++ highs key l

theorem mem_take {l : List (Int × Int)} {k : Nat} {r : Int × Int} (h : r ∈ l.take k) : ∃ i, i < k ∧ i < l.length ∧ l.getD i (0, 0) = r := by
  obtain ⟨i, hi, e⟩ := List.mem_iff_getElem.1 h
  rw [List.length_take] at hi
  refine ⟨i, by omega, by omega, ?_⟩
  rw [← e, List.getElem_take]
  simp [List.getD, show i < l.length by omega]
theorem mem_drop {l : List (Int × Int)} {k : Nat} {r : Int × Int} (h : r ∈ l.drop k) : ∃ i, k ≤ i ∧ i < l.length ∧ l.getD i (0, 0) = r := by
  obtain ⟨i, hi, e⟩ := List.mem_iff_getElem.1 h
  rw [List.length_drop] at hi
  refine ⟨k + i, by omega, by omega, ?_⟩
  rw [← e, List.getElem_drop]
  simp [List.getD, show k + i < l.length by omega]

theorem filter_all {p : Int × Int → Bool} (l : List (Int × Int)) (h : ∀ r ∈ l, p r = true) : l.filter p = l := List.filter_eq_self.2 h
theorem filter_no {p : Int × Int → Bool} (l : List (Int × Int)) (h : ∀ r ∈ l, p r = false) : l.filter p = [] := List.filter_eq_nil_iff.2 fun r hr => by rw [h r hr]; decide

theorem At.lows {l : List (Int × Int)} {key : Int} {k : Nat} {t : Bool} (h : At l key k t) (ok : Ok l) : lows key l = l.take k := by
  unfold M.lows
  rw [← List.take_append_drop k l, List.filter_append, filter_all (l.take k), filter_no (l.drop k)]
  · simp [List.take_append_drop]
  · intro r hr
    obtain ⟨i, h1, h2, rfl⟩ := mem_drop hr
    have := h.2.2.1 (by omega)
    have := ok.mono k i h1 h2
    exact decide_eq_false (by omega)
  · intro r hr
    obtain ⟨i, h1, h2, rfl⟩ := mem_take hr
    simpa using h.2.1 i h1

theorem At.highs_no {l : List (Int × Int)} {key : Int} {k : Nat} (h : At l key k false) (ok : Ok l) : highs key l = l.drop k := by
  unfold M.highs
  rw [← List.take_append_drop k l, List.filter_append, filter_no (l.take k), filter_all (l.drop k)]
  · simp [List.take_append_drop]
  · intro r hr
    obtain ⟨i, h1, h2, rfl⟩ := mem_drop hr
    have h3 := h.2.2.1 (by omega)
    have h4 := ok.mono k i h1 h2
    have h5 : (l.getD k (0, 0)).1 ≠ key := fun e => by have := h.2.2.2.2 ⟨by omega, e⟩; simp at this
    exact decide_eq_true (by omega)
  · intro r hr
    obtain ⟨i, h1, h2, rfl⟩ := mem_take hr
    have := h.2.1 i h1
    exact decide_eq_false (by omega)

theorem At.highs_yes {l : List (Int × Int)} {key : Int} {k : Nat} (h : At l key k true) (ok : Ok l) : highs key l = l.drop (k + 1) := by
  unfold M.highs
  rw [← List.take_append_drop (k + 1) l, List.filter_append, filter_no (l.take (k + 1)), filter_all (l.drop (k + 1))]
  · simp [List.take_append_drop]
  · intro r hr
    obtain ⟨i, h1, h2, rfl⟩ := mem_drop hr
    have h3 := h.yes
    have h4 := ok.asc k i h1 h2
    exact decide_eq_true (by omega)
  · intro r hr
    obtain ⟨i, h1, h2, rfl⟩ := mem_take hr
    have h3 := h.yes
    have h4 := ok.mono i k (by omega) h3.1
    exact decide_eq_false (by omega)

/-- The error of Put. -/
def putE (l : List (Int × Int)) (key val : Int) : Int := if asked l key ≠ 0 then asked l key else if val < -1 ∨ 996 < val then 3 else if 40 < (put key val l).length then 2 else 0
def putV (l : List (Int × Int)) (key val : Int) : List (Int × Int) := if putE l key val = 0 then put key val l else []
theorem putE_bad {l : List (Int × Int)} {key val : Int} (h : asked l key ≠ 0) : putE l key val = asked l key := by unfold putE; rw [if_pos h]
theorem putE_range {l : List (Int × Int)} {key val : Int} (h : asked l key = 0) (hv : val < -1 ∨ 996 < val) : putE l key val = 3 := by unfold putE; rw [if_neg (by omega), if_pos hv]
theorem putE_many {l : List (Int × Int)} {key val : Int} (h : asked l key = 0) (h1 : -1 ≤ val) (h2 : val ≤ 996) (h3 : 40 < (put key val l).length) : putE l key val = 2 := by unfold putE; rw [if_neg (by omega), if_neg (by omega), if_pos h3]
theorem putE_ok {l : List (Int × Int)} {key val : Int} (h : asked l key = 0) (h1 : -1 ≤ val) (h2 : val ≤ 996) (h3 : (put key val l).length ≤ 40) : putE l key val = 0 := by unfold putE; rw [if_neg (by omega), if_neg (by omega), if_neg (by omega)]
theorem putE_zero {l : List (Int × Int)} {key val : Int} (h : putE l key val = 0) : asked l key = 0 ∧ -1 ≤ val ∧ val ≤ 996 ∧ (put key val l).length ≤ 40 := by
  unfold putE at h
  split at h
  · omega
  · split at h
    · omega
    · split at h
      · omega
      · omega
theorem putV_no {l : List (Int × Int)} {key val : Int} (h : putE l key val ≠ 0) : putV l key val = [] := by unfold putV; rw [if_neg h]
theorem putV_ok {l : List (Int × Int)} {key val : Int} (h : putE l key val = 0) : putV l key val = put key val l := by unfold putV; rw [if_pos h]

end Go.Proofs.YtcgpgflnihjpiafGreat.M

/- rows.Put. -/
namespace Go.Proofs.YtcgpgflnihjpiafGreat
open Go.RowKit

theorem Own.lower {w : World} {base base' : Nat} {v : Value} {l : List (Int × Int)} (h : Own w base v l) (hb : base' ≤ base) : Own w base' v l := by
  obtain ⟨h1, h2⟩ := h
  refine ⟨h1, ?_⟩
  rcases h2 with h2 | ⟨g, cap, cur, hv, hg, r⟩
  · exact Or.inl h2
  · exact Or.inr ⟨g, cap, cur, hv, Nat.le_trans hb hg, r⟩

theorem concat3 (W0 : World) (c : Nat) (hc : W0.heap.size = c) (a0 a1 a2 : Option Addr) (n0 n1 n2 c0 c1 c2 : Nat) (L0 L1 L2 : List (Int × Int))
    (h0 : Rd W0 a0 n0 L0) (h1 : Rd W0 a1 n1 L1) (h2 : Rd W0 a2 n2 L2) (z0 : a0 = none → n0 = 0 ∧ c0 = 0) (z1 : a1 = none → n1 = 0 ∧ c1 = 0) (z2 : a2 = none → n2 = 0 ∧ c2 = 0) (hbig : n0 + n1 + n2 ≤ 1000000) :
    Calls Tryz.prog 148 #[.slice (some ⟨c, 0, none⟩) 3 3] (W0.alloc (.cells #[.slice a0 n0 c0, .slice a1 n1 c1, .slice a2 n2 c2] 49)) fun e w' => ∃ a nn cap, e = .returned (.slice a nn cap) ∧ Rd w' a nn (L0 ++ L1 ++ L2) ∧ nn ≤ cap ∧ cap ≤ maxLen ∧ ((a = none → nn = 0 ∧ cap = 0) ∧ Own w' W0.heap.size (.slice a nn cap) (L0 ++ L1 ++ L2)) ∧ Below W0.heap.size W0 w' := by
  subst hc
  obtain ⟨W, hW⟩ : ∃ W, W = W0.alloc (.cells #[.slice a0 n0 c0, .slice a1 n1 c1, .slice a2 n2 c2] 49) := ⟨_, rfl⟩
  have hb : Below W0.heap.size W0 W := by rw [hW]; exact (Below.refl _ _).alloc (Nat.le_refl _) _
  have hsz : W.heap.size = W0.heap.size + 1 := by rw [hW]; simp
  have hR : Rds W W0.heap.size 0 3 (fun i => if i = 0 then a0 else if i = 1 then a1 else a2) (fun i => if i = 0 then c0 else if i = 1 then c1 else c2) [L0, L1, L2] := by
    refine ⟨rfl, by omega, fun i hi => ?_⟩
    have e0 := h0.1
    have e1 := h1.1
    have e2 := h2.1
    match i, hi with
    | 0, _ => exact ⟨by rw [hW]; simp [go_sem, e0], by simpa [e0] using h0.below hb (Nat.le_refl _), by simpa [e0] using z0⟩
    | 1, _ => exact ⟨by rw [hW]; simp [go_sem, e1], by simpa [e1] using h1.below hb (Nat.le_refl _), by simpa [e1] using z1⟩
    | 2, _ => exact ⟨by rw [hW]; simp [go_sem, e2], by simpa [e2] using h2.below hb (Nat.le_refl _), by simpa [e2] using z2⟩
  rw [← hW]
  refine (concat_any W0.heap.size 0 3 3 _ _ [L0, L1, L2] W (by omega) hR (by simp [h0.1, h1.1, h2.1]; omega)).mono ?_
  rintro e w' ⟨v, rfl, hown, hb2⟩
  have ef : [L0, L1, L2].flatten = L0 ++ L1 ++ L2 := by simp
  rw [ef] at hown
  obtain ⟨a, cap, rfl, r1, r2, r3, r4⟩ := hown.rd
  exact ⟨a, _, cap, rfl, r1, r2, r3, ⟨r4, hown.lower (by omega)⟩, hb.trans (hb2.mono (by omega))⟩

/-- What Put hands back where it is right. -/
def Done (w w' : World) (L : List (Int × Int)) (e : Ending) : Prop := ∃ a nn cap, e = .returned (.tuple #[.slice a nn cap, .int .i64 0]) ∧ Rd w' a nn L ∧ nn ≤ cap ∧ cap ≤ maxLen ∧ ((a = none → nn = 0 ∧ cap = 0) ∧ Own w' w.heap.size (.slice a nn cap) L) ∧ Below w.heap.size w w'

theorem Done.mk {w w1 w2 w' : World} {L L' : List (Int × Int)} {a : Option Addr} {nn cap : Nat} (hL : L' = L) (h1 : Rd w' a nn L) (h2 : nn ≤ cap) (h3 : cap ≤ maxLen) (h4 : (a = none → nn = 0 ∧ cap = 0) ∧ Own w' w2.heap.size (.slice a nn cap) L) (b1 : Below w.heap.size w w1) (b2 : Below w1.heap.size w1 w2) (b3 : Below w2.heap.size w2 w') :
    Done w w' L' (.returned (.tuple #[.slice a nn cap, .int .i64 0])) := by
  subst hL
  have b4 := b2.trans (b3.mono b2.size)
  exact ⟨a, nn, cap, rfl, h1, h2, h3, ⟨h4.1, h4.2.lower (Nat.le_trans b1.size b2.size)⟩, b1.trans (b4.mono b1.size)⟩

set_option maxHeartbeats 4000000 in
theorem put_some (b off n cap : Nat) (l : List (Int × Int)) (key val : Int) (w : World) (hcap : n ≤ cap) (_hcm : cap ≤ maxLen) (h : Rd w (some ⟨b, off, none⟩) n l) (hb : M.asked l key = 0) (hv : -1 ≤ val) (hv2 : val ≤ 996) (hfew : (M.put key val l).length ≤ 40) :
    Calls Tryz.prog 123 #[.slice (some ⟨b, off, none⟩) n cap, .int .i64 key, .int .i64 val] w fun e w' => Done w w' (M.put key val l) e := by
  have hz := M.asked_zero hb
  have hz2 := (M.chk_zero l).1 hz.1
  have hn40 : n ≤ 40 := by rw [← h.1]; exact hz2.1
  have H := asked_any (some ⟨b, off, none⟩) n cap l key w h (by omega)
  rw [hb] at H
  have HH : Hid (Calls Tryz.prog 143 #[.slice (some ⟨b, off, none⟩) n cap, .int .i64 key] w fun e w' => e = .returned (.int .i64 0) ∧ Below w.heap.size w w') := H
  have HR : Hid (Rd w (some ⟨b, off, none⟩) n l) := h
  have HZ : Hid (M.chk l = 0) := hz.1
  have HOk : Hid (M.Ok l) := hz2.2
  have HF : Hid ((M.put key val l).length ≤ 40) := hfew
  clear H hb hz h hz2 hfew
  unfold maxLen at _hcm
  have hd : decide (val < -1) = false := by simp; omega
  go_enter Tryz.func123, Tryz.ntmps123
  go_wp2_with fail
  refine HH.out.mono ?_
  rintro e w1 ⟨rfl, hb1⟩
  have HR1 : Hid (Rd w1 (some ⟨b, off, none⟩) n l) := HR.out.below hb1 (Nat.le_refl _)
  go_wp2_with fail
  refine (place_any (some ⟨b, off, none⟩) n cap l key w1 HR1.out HZ.out).mono ?_
  rintro e w2 ⟨k, t, rfl, hat, hb2⟩
  have hb3 := hb1.trans (hb2.mono hb1.size)
  have HR2 : Hid (Rd w2 (some ⟨b, off, none⟩) n l) := HR1.out.below hb2 (Nat.le_refl _)
  have hk : k ≤ n := by have := hat.1; rw [HR2.out.1] at this; exact this
  have HAt : Hid (M.At l key k t) := hat
  clear hat hb1 hb2
  cases t with
  | true =>
    have hk1 : k < n := by have := HAt.out.yes.1; rw [HR2.out.1] at this; exact this
    by_cases hv0 : val = -1
    · have hvb : (val != -1) = false := by simp [hv0]
      have E : Hid (M.put key val l = l.take k ++ [] ++ l.drop (k + 1)) := by unfold Hid M.put M.own; rw [HAt.out.lows HOk.out, HAt.out.highs_yes HOk.out, if_pos hv0]
      clear hv0
      go_wp2_with fail
      go_quiet (fail)
      go_wp2_with fail
      all_goals (
        have R := HR2.out.below (drewN_below w2 nq) (Nat.le_refl _)
        have R2 : Rd (w2.drewN nq) (some ⟨b, off + k * 2 + 2, none⟩) (n - k - 1) (l.drop (k + 1)) := by
          have h := R.drop (k + 1)
          rwa [show off + (k + 1) * 2 = off + k * 2 + 2 by omega, show n - (k + 1) = n - k - 1 by omega] at h
        refine (concat3 (w2.drewN nq) w2.heap.size rfl _ _ _ _ _ _ _ _ _ (l.take k) [] (l.drop (k + 1)) (R.take k hk) (Rd.zero rfl rfl) (by first | exact R2 | exact Rd.zero (by omega) R2.1) (by simp) (by simp) (by simp) (by omega)).mono ?_
        rintro e w3 ⟨a', nn, cap', rfl, r1, r2, r3, r4, hb4⟩
        have F : Hid (Done w w3 (M.put key val l) (.returned (.tuple #[.slice a' nn cap', .int .i64 0]))) := Done.mk E.out r1 r2 r3 r4 hb3 (drewN_below w2 nq) hb4
        clear r1 r2 r3 r4 R R2 hb4
        go_wp2
        go_ret2
        exact F.out)
    · have hvb : (val != -1) = true := by simp [hv0]
      have E : Hid (M.put key val l = l.take k ++ [(key, val)] ++ l.drop (k + 1)) := by unfold Hid M.put M.own; rw [HAt.out.lows HOk.out, HAt.out.highs_yes HOk.out, if_neg hv0]
      clear hv0
      go_wp2_with fail
      go_quiet (fail)
      go_wp2_with fail
      all_goals (
        have R := (HR2.out.below (drewN_below w2 nq) (Nat.le_refl _)).below (w' := (w2.drewN nq).alloc (.cells #[.int .i64 key, .int .i64 val] 98)) ((Below.refl _ _).alloc (Nat.le_refl _) _) (Nat.le_refl _)
        have R2 : Rd ((w2.drewN nq).alloc (.cells #[.int .i64 key, .int .i64 val] 98)) (some ⟨b, off + k * 2 + 2, none⟩) (n - k - 1) (l.drop (k + 1)) := by
          have h := R.drop (k + 1)
          rwa [show off + (k + 1) * 2 = off + k * 2 + 2 by omega, show n - (k + 1) = n - k - 1 by omega] at h
        refine (concat3 ((w2.drewN nq).alloc (.cells #[.int .i64 key, .int .i64 val] 98)) (w2.heap.size + 1) (by simp) _ _ _ _ _ _ _ _ _ (l.take k) [(key, val)] (l.drop (k + 1)) (R.take k hk) (one_rd (w2.drewN nq) key val) (by first | exact R2 | exact Rd.zero (by omega) R2.1) (by simp) (by simp) (by simp) (by omega)).mono ?_
        rintro e w3 ⟨a', nn, cap', rfl, r1, r2, r3, r4, hb4⟩
        have F : Hid (Done w w3 (M.put key val l) (.returned (.tuple #[.slice a' nn cap', .int .i64 0]))) := Done.mk E.out r1 r2 r3 r4 hb3 ((drewN_below w2 nq).alloc (Nat.le_refl _) _) hb4
        clear r1 r2 r3 r4 R R2 hb4
        go_wp2
        go_ret2
        exact F.out)
  | false =>
    by_cases hv0 : val = -1
    · have hvb : (val != -1) = false := by simp [hv0]
      have E : Hid (M.put key val l = l.take k ++ [] ++ l.drop k) := by unfold Hid M.put M.own; rw [HAt.out.lows HOk.out, HAt.out.highs_no HOk.out, if_pos hv0]
      clear hv0
      go_wp2_with fail
      go_quiet (fail)
      go_wp2_with fail
      all_goals (
        have R := HR2.out.below (drewN_below w2 nq) (Nat.le_refl _)
        have R2 : Rd (w2.drewN nq) (some ⟨b, off + k * 2, none⟩) (n - k) (l.drop k) := by
          exact R.drop k
        refine (concat3 (w2.drewN nq) w2.heap.size rfl _ _ _ _ _ _ _ _ _ (l.take k) [] (l.drop k) (R.take k hk) (Rd.zero rfl rfl) (by first | exact R2 | exact Rd.zero (by omega) R2.1) (by simp) (by simp) (by simp) (by omega)).mono ?_
        rintro e w3 ⟨a', nn, cap', rfl, r1, r2, r3, r4, hb4⟩
        have F : Hid (Done w w3 (M.put key val l) (.returned (.tuple #[.slice a' nn cap', .int .i64 0]))) := Done.mk E.out r1 r2 r3 r4 hb3 (drewN_below w2 nq) hb4
        clear r1 r2 r3 r4 R R2 hb4
        go_wp2
        go_ret2
        exact F.out)
    · have hvb : (val != -1) = true := by simp [hv0]
      have E : Hid (M.put key val l = l.take k ++ [(key, val)] ++ l.drop k) := by unfold Hid M.put M.own; rw [HAt.out.lows HOk.out, HAt.out.highs_no HOk.out, if_neg hv0]
      have hn39 : n ≤ 39 := by
        have h := HF.out
        rw [E.out] at h
        simp only [List.length_append, List.length_take, List.length_drop, List.length_cons, List.length_nil, HR2.out.1] at h
        omega
      clear hv0
      go_wp2_with fail
      go_quiet (fail)
      go_wp2_with fail
      all_goals (
        have R := (HR2.out.below (drewN_below w2 nq) (Nat.le_refl _)).below (w' := (w2.drewN nq).alloc (.cells #[.int .i64 key, .int .i64 val] 98)) ((Below.refl _ _).alloc (Nat.le_refl _) _) (Nat.le_refl _)
        have R2 : Rd ((w2.drewN nq).alloc (.cells #[.int .i64 key, .int .i64 val] 98)) (some ⟨b, off + k * 2, none⟩) (n - k) (l.drop k) := by
          exact R.drop k
        refine (concat3 ((w2.drewN nq).alloc (.cells #[.int .i64 key, .int .i64 val] 98)) (w2.heap.size + 1) (by simp) _ _ _ _ _ _ _ _ _ (l.take k) [(key, val)] (l.drop k) (R.take k hk) (one_rd (w2.drewN nq) key val) (by first | exact R2 | exact Rd.zero (by omega) R2.1) (by simp) (by simp) (by simp) (by omega)).mono ?_
        rintro e w3 ⟨a', nn, cap', rfl, r1, r2, r3, r4, hb4⟩
        have F : Hid (Done w w3 (M.put key val l) (.returned (.tuple #[.slice a' nn cap', .int .i64 0]))) := Done.mk E.out r1 r2 r3 r4 hb3 ((drewN_below w2 nq).alloc (Nat.le_refl _) _) hb4
        clear r1 r2 r3 r4 R R2 hb4
        go_wp2
        go_ret2
        exact F.out)

set_option maxHeartbeats 1000000 in
theorem put_bad (a : Option Addr) (n cap : Nat) (l : List (Int × Int)) (key val : Int) (w : World) (h : Rd w a n l) (hm : n ≤ 9223372036854775807) (hb : M.asked l key ≠ 0) :
    Calls Tryz.prog 123 #[.slice a n cap, .int .i64 key, .int .i64 val] w fun e w' => e = .returned (.tuple #[.slice none 0 0, .int .i64 (M.asked l key)]) ∧ Below w.heap.size w w' := by
  have H := asked_any a n cap l key w h hm
  obtain ⟨c, hc⟩ : ∃ c, c = M.asked l key := ⟨_, rfl⟩
  rw [← hc] at H hb ⊢
  clear hc h
  have hne : (c != 0) = true := by simp [hb]
  clear hb
  have HH : Hid (Calls Tryz.prog 143 #[.slice a n cap, .int .i64 key] w fun e w' => e = .returned (.int .i64 c) ∧ Below w.heap.size w w') := H
  clear H
  go_enter Tryz.func123, Tryz.ntmps123
  go_wp2_with (go_at_call 143; refine HH.out.mono ?_; rintro e w' ⟨rfl, hb1⟩)
  go_ret2
  exact ⟨rfl, hb1⟩

set_option maxHeartbeats 1000000 in
theorem put_range (a : Option Addr) (n cap : Nat) (l : List (Int × Int)) (key val : Int) (w : World) (h : Rd w a n l) (hm : n ≤ 9223372036854775807) (hb : M.asked l key = 0) (hv : val < -1 ∨ 996 < val) :
    Calls Tryz.prog 123 #[.slice a n cap, .int .i64 key, .int .i64 val] w fun e w' => e = .returned (.tuple #[.slice none 0 0, .int .i64 3]) ∧ Below w.heap.size w w' := by
  have H := asked_any a n cap l key w h hm
  rw [hb] at H
  clear h hb
  have HH : Hid (Calls Tryz.prog 143 #[.slice a n cap, .int .i64 key] w fun e w' => e = .returned (.int .i64 0) ∧ Below w.heap.size w w') := H
  clear H
  rcases hv with hv | hv
  · go_enter Tryz.func123, Tryz.ntmps123
    go_wp2_with (go_at_call 143; refine HH.out.mono ?_; rintro e w' ⟨rfl, hb1⟩)
    go_ret2
    exact ⟨rfl, hb1⟩
  · have hd : decide (val < -1) = false := by simp; omega
    go_enter Tryz.func123, Tryz.ntmps123
    go_wp2_with (go_at_call 143; refine HH.out.mono ?_; rintro e w' ⟨rfl, hb1⟩)
    go_ret2
    exact ⟨rfl, hb1⟩

set_option maxHeartbeats 2000000 in
theorem put_many (b off n cap : Nat) (l : List (Int × Int)) (key val : Int) (w : World) (hcap : n ≤ cap) (_hcm : cap ≤ maxLen) (h : Rd w (some ⟨b, off, none⟩) n l) (hb : M.asked l key = 0) (hv : -1 ≤ val) (hv2 : val ≤ 996) (hmany : 40 < (M.put key val l).length) :
    Calls Tryz.prog 123 #[.slice (some ⟨b, off, none⟩) n cap, .int .i64 key, .int .i64 val] w fun e w' => e = .returned (.tuple #[.slice none 0 0, .int .i64 2]) ∧ Below w.heap.size w w' := by
  have hz := M.asked_zero hb
  have hz2 := (M.chk_zero l).1 hz.1
  have hn40 : n ≤ 40 := by rw [← h.1]; exact hz2.1
  have H := asked_any (some ⟨b, off, none⟩) n cap l key w h (by omega)
  rw [hb] at H
  have HH : Hid (Calls Tryz.prog 143 #[.slice (some ⟨b, off, none⟩) n cap, .int .i64 key] w fun e w' => e = .returned (.int .i64 0) ∧ Below w.heap.size w w') := H
  have HR : Hid (Rd w (some ⟨b, off, none⟩) n l) := h
  have HZ : Hid (M.chk l = 0) := hz.1
  have HOk : Hid (M.Ok l) := hz2.2
  have HF : Hid (40 < (M.put key val l).length) := hmany
  clear H hb hz h hz2 hmany
  unfold maxLen at _hcm
  have hd : decide (val < -1) = false := by simp; omega
  go_enter Tryz.func123, Tryz.ntmps123
  go_wp2_with fail
  refine HH.out.mono ?_
  rintro e w1 ⟨rfl, hb1⟩
  have HR1 : Hid (Rd w1 (some ⟨b, off, none⟩) n l) := HR.out.below hb1 (Nat.le_refl _)
  go_wp2_with fail
  refine (place_any (some ⟨b, off, none⟩) n cap l key w1 HR1.out HZ.out).mono ?_
  rintro e w2 ⟨k, t, rfl, hat, hb2⟩
  have hb3 := hb1.trans (hb2.mono hb1.size)
  have HR2 : Hid (Rd w2 (some ⟨b, off, none⟩) n l) := HR1.out.below hb2 (Nat.le_refl _)
  have hk : k ≤ n := by have := hat.1; rw [HR2.out.1] at this; exact this
  have HAt : Hid (M.At l key k t) := hat
  clear hat hb1 hb2
  cases t with
  | true =>
    have hk1 : k < n := by have := HAt.out.yes.1; rw [HR2.out.1] at this; exact this
    have h := HF.out
    have h2 : (M.own key val).length ≤ 1 := by unfold M.own; split <;> simp
    unfold M.put at h
    rw [HAt.out.lows HOk.out, HAt.out.highs_yes HOk.out] at h
    simp only [List.length_append, List.length_take, List.length_drop, HR2.out.1] at h
    omega
  | false =>
    have h := HF.out
    unfold M.put at h
    rw [HAt.out.lows HOk.out, HAt.out.highs_no HOk.out] at h
    simp only [List.length_append, List.length_take, List.length_drop, HR2.out.1] at h
    have h2 : (M.own key val).length ≤ 1 := by unfold M.own; split <;> simp
    have hv0 : val ≠ -1 := by
      intro e
      unfold M.own at h
      rw [if_pos e] at h
      simp at h
      omega
    have hn : 40 ≤ n := by omega
    clear h h2
    have hvb : (val != -1) = true := by simp [hv0]
    clear hv0
    go_wp2_with fail
    go_quiet (fail)
    go_wp2_with fail
    all_goals (
      go_ret2
      exact ⟨rfl, (below_drewN hb3 nq).alloc (Nat.le_trans hb3.size (Nat.le_refl _)) _⟩)

theorem at_nil {key : Int} {k : Nat} {t : Bool} (h : M.At [] key k t) : k = 0 ∧ t = false := by
  obtain ⟨h1, _, _, h4⟩ := h
  refine ⟨by simpa using h1, ?_⟩
  cases t with
  | false => rfl
  | true => have := h4.1 rfl; simp at this

set_option maxHeartbeats 2000000 in
theorem put_none (a : Option Addr) (cap : Nat) (key val : Int) (w : World) (_hcm : cap ≤ maxLen) (hnil : a = none → cap = 0) (hb : M.asked [] key = 0) (hv : -1 ≤ val) (hv2 : val ≤ 996) :
    Calls Tryz.prog 123 #[.slice a 0 cap, .int .i64 key, .int .i64 val] w fun e w' => Done w w' (M.put key val []) e := by
  have h : Rd w a 0 [] := Rd.zero rfl rfl
  have hz := M.asked_zero hb
  have H := asked_any a 0 cap [] key w h (by omega)
  rw [hb] at H
  have HH : Hid (Calls Tryz.prog 143 #[.slice a 0 cap, .int .i64 key] w fun e w' => e = .returned (.int .i64 0) ∧ Below w.heap.size w w') := H
  have HZ : Hid (M.chk [] = 0) := hz.1
  clear H hb hz h
  unfold maxLen at _hcm
  have hd : decide (val < -1) = false := by simp; omega
  have HN : Hid (a = none → cap = 0) := hnil
  clear hnil
  go_enter Tryz.func123, Tryz.ntmps123
  go_wp2_with fail
  refine HH.out.mono ?_
  rintro e w1 ⟨rfl, hb1⟩
  go_wp2_with fail
  refine (place_any a 0 cap [] key w1 (Rd.zero rfl rfl) HZ.out).mono ?_
  rintro e w2 ⟨k, t, rfl, hat, hb2⟩
  obtain ⟨rfl, rfl⟩ := at_nil hat
  have hb3 := hb1.trans (hb2.mono hb1.size)
  clear hat hb1 hb2
  cases a with
  | none =>
    obtain rfl : cap = 0 := HN.out rfl
    by_cases hv0 : val = -1
    · have hvb : (val != -1) = false := by simp [hv0]
      have E : Hid (M.put key val [] = [] ++ [] ++ []) := by unfold Hid M.put M.own; rw [if_pos hv0]; rfl
      clear hv0
      go_wp2_with fail
      go_quiet (fail)
      go_wp2_with fail
      all_goals (
        refine (concat3 (w2.drewN nq) w2.heap.size rfl _ _ _ _ _ _ _ _ _ [] [] [] (Rd.zero rfl rfl) (Rd.zero rfl rfl) (Rd.zero rfl rfl) (by simp) (by simp) (by simp) (by omega)).mono ?_
        rintro e w3 ⟨a', nn, cap', rfl, r1, r2, r3, r4, hb4⟩
        have F : Hid (Done w w3 (M.put key val []) (.returned (.tuple #[.slice a' nn cap', .int .i64 0]))) := Done.mk E.out r1 r2 r3 r4 hb3 (drewN_below w2 nq) hb4
        clear r1 r2 r3 r4 hb4
        go_wp2
        go_ret2
        exact F.out)
    · have hvb : (val != -1) = true := by simp [hv0]
      have E : Hid (M.put key val [] = [] ++ [(key, val)] ++ []) := by unfold Hid M.put M.own; rw [if_neg hv0]; rfl
      clear hv0
      go_wp2_with fail
      go_quiet (fail)
      go_wp2_with fail
      all_goals (
        refine (concat3 ((w2.drewN nq).alloc (.cells #[.int .i64 key, .int .i64 val] 98)) (w2.heap.size + 1) (by simp) _ _ _ _ _ _ _ _ _ [] [(key, val)] [] (Rd.zero rfl rfl) (one_rd (w2.drewN nq) key val) (Rd.zero rfl rfl) (by simp) (by simp) (by simp) (by omega)).mono ?_
        rintro e w3 ⟨a', nn, cap', rfl, r1, r2, r3, r4, hb4⟩
        have F : Hid (Done w w3 (M.put key val []) (.returned (.tuple #[.slice a' nn cap', .int .i64 0]))) := Done.mk E.out r1 r2 r3 r4 hb3 ((drewN_below w2 nq).alloc (Nat.le_refl _) _) hb4
        clear r1 r2 r3 r4 hb4
        go_wp2
        go_ret2
        exact F.out)
  | some ad =>
    obtain ⟨b, off, spot⟩ := ad
    by_cases hv0 : val = -1
    · have hvb : (val != -1) = false := by simp [hv0]
      have E : Hid (M.put key val [] = [] ++ [] ++ []) := by unfold Hid M.put M.own; rw [if_pos hv0]; rfl
      clear hv0
      go_wp2_with fail
      go_quiet (fail)
      go_wp2_with fail
      all_goals (
        refine (concat3 (w2.drewN nq) w2.heap.size rfl _ _ _ _ _ _ _ _ _ [] [] [] (Rd.zero rfl rfl) (Rd.zero rfl rfl) (Rd.zero rfl rfl) (by simp) (by simp) (by simp) (by omega)).mono ?_
        rintro e w3 ⟨a', nn, cap', rfl, r1, r2, r3, r4, hb4⟩
        have F : Hid (Done w w3 (M.put key val []) (.returned (.tuple #[.slice a' nn cap', .int .i64 0]))) := Done.mk E.out r1 r2 r3 r4 hb3 (drewN_below w2 nq) hb4
        clear r1 r2 r3 r4 hb4
        go_wp2
        go_ret2
        exact F.out)
    · have hvb : (val != -1) = true := by simp [hv0]
      have E : Hid (M.put key val [] = [] ++ [(key, val)] ++ []) := by unfold Hid M.put M.own; rw [if_neg hv0]; rfl
      clear hv0
      go_wp2_with fail
      go_quiet (fail)
      go_wp2_with fail
      all_goals (
        refine (concat3 ((w2.drewN nq).alloc (.cells #[.int .i64 key, .int .i64 val] 98)) (w2.heap.size + 1) (by simp) _ _ _ _ _ _ _ _ _ [] [(key, val)] [] (Rd.zero rfl rfl) (one_rd (w2.drewN nq) key val) (Rd.zero rfl rfl) (by simp) (by simp) (by simp) (by omega)).mono ?_
        rintro e w3 ⟨a', nn, cap', rfl, r1, r2, r3, r4, hb4⟩
        have F : Hid (Done w w3 (M.put key val []) (.returned (.tuple #[.slice a' nn cap', .int .i64 0]))) := Done.mk E.out r1 r2 r3 r4 hb3 ((drewN_below w2 nq).alloc (Nat.le_refl _) _) hb4
        clear r1 r2 r3 r4 hb4
        go_wp2
        go_ret2
        exact F.out)

/-- What a call hands back that answers rows and an error. -/
def Hands (w w' : World) (L : List (Int × Int)) (c : Int) (e : Ending) : Prop := ∃ a nn cap, e = .returned (.tuple #[.slice a nn cap, .int .i64 c]) ∧ Rd w' a nn L ∧ nn ≤ cap ∧ cap ≤ maxLen ∧ (a = none → nn = 0 ∧ cap = 0) ∧ Below w.heap.size w w'

theorem Hands.err {w w' : World} (c : Int) (hb : Below w.heap.size w w') : Hands w w' [] c (.returned (.tuple #[.slice none 0 0, .int .i64 c])) :=
  ⟨none, 0, 0, rfl, Rd.zero rfl rfl, Nat.le_refl _, by simp [maxLen], fun _ => ⟨rfl, rfl⟩, hb⟩

/-- .. in rows of the call's own. -/
def HandsO (w w' : World) (L : List (Int × Int)) (c : Int) (e : Ending) : Prop := ∃ a nn cap, e = .returned (.tuple #[.slice a nn cap, .int .i64 c]) ∧ Rd w' a nn L ∧ nn ≤ cap ∧ cap ≤ maxLen ∧ ((a = none → nn = 0 ∧ cap = 0) ∧ Own w' w.heap.size (.slice a nn cap) L) ∧ Below w.heap.size w w'
theorem HandsO.err {w w' : World} (c : Int) (hb : Below w.heap.size w w') : HandsO w w' [] c (.returned (.tuple #[.slice none 0 0, .int .i64 c])) :=
  ⟨none, 0, 0, rfl, Rd.zero rfl rfl, Nat.le_refl _, by simp [maxLen], ⟨fun _ => ⟨rfl, rfl⟩, World.ownsRow_nil _ _ _ _⟩, hb⟩
theorem HandsO.hands {w w' : World} {L : List (Int × Int)} {c : Int} {e : Ending} (h : HandsO w w' L c e) : Hands w w' L c e := by
  obtain ⟨a, nn, cap, h1, h2, h3, h4, h5, h6⟩ := h
  exact ⟨a, nn, cap, h1, h2, h3, h4, h5.1, h6⟩

theorem put_own (a : Option Addr) (n cap : Nat) (l : List (Int × Int)) (key val : Int) (w : World) (h : Rd w a n l) (hcap : n ≤ cap) (hcm : cap ≤ maxLen) (hnil : a = none → n = 0 ∧ cap = 0) :
    Calls Tryz.prog 123 #[.slice a n cap, .int .i64 key, .int .i64 val] w fun e w' => HandsO w w' (M.putV l key val) (M.putE l key val) e := by
  have hm : n ≤ 9223372036854775807 := by unfold maxLen at hcm; omega
  by_cases hb : M.asked l key = 0
  · by_cases hv : val < -1 ∨ 996 < val
    · have e1 := M.putE_range hb hv
      rw [M.putV_no (by omega), e1]
      refine (put_range a n cap l key val w h hm hb hv).mono ?_
      rintro e w' ⟨rfl, hb1⟩
      exact HandsO.err 3 hb1
    · by_cases hmany : 40 < (M.put key val l).length
      · have e1 := M.putE_many hb (by omega) (by omega) hmany
        rw [M.putV_no (by omega), e1]
        rcases h.cases with ⟨rfl, rfl⟩ | ⟨b, off, rfl, hn, hl, hB, hc⟩
        · exfalso
          have h2 : (M.own key val).length ≤ 1 := by unfold M.own; split <;> simp
          simp [M.put, M.lows, M.highs] at hmany
          omega
        · refine (put_many b off n cap l key val w hcap hcm h hb (by omega) (by omega) hmany).mono ?_
          rintro e w' ⟨rfl, hb1⟩
          exact HandsO.err 2 hb1
      · have e1 := M.putE_ok hb (val := val) (by omega) (by omega) (by omega)
        rw [M.putV_ok e1, e1]
        rcases h.cases with ⟨rfl, rfl⟩ | ⟨b, off, rfl, hn, hl, hB, hc⟩
        · exact put_none a cap key val w hcm (fun h => (hnil h).2) hb (by omega) (by omega)
        · exact put_some b off n cap l key val w hcap hcm h hb (by omega) (by omega) (by omega)
  · have e1 := M.putE_bad (val := val) hb
    rw [M.putV_no (by omega), e1]
    refine (put_bad a n cap l key val w h hm hb).mono ?_
    rintro e w' ⟨rfl, hb1⟩
    exact HandsO.err _ hb1
theorem put_any (a : Option Addr) (n cap : Nat) (l : List (Int × Int)) (key val : Int) (w : World) (h : Rd w a n l) (hcap : n ≤ cap) (hcm : cap ≤ maxLen) (hnil : a = none → n = 0 ∧ cap = 0) :
    Calls Tryz.prog 123 #[.slice a n cap, .int .i64 key, .int .i64 val] w fun e w' => Hands w w' (M.putV l key val) (M.putE l key val) e := (put_own a n cap l key val w h hcap hcm hnil).mono fun _ _ h => h.hands
end Go.Proofs.YtcgpgflnihjpiafGreat
