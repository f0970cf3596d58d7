/- MemA. -/
import Derived.Test.YtcgpgflnihjpiagGreatBRestRepos01
import Derived.Laws.AppendOwnNone
import Derived.RangeFuncBox
import Derived.Deep.AppendLies
import Derived.Lib.AppendStr
import Derived.Laws.IdiomStrings
import Derived.Lib.BufferRead
namespace Go.Proofs.YtcgpgflnihjpiagGreat
open Go.RowKit
def enc (l : List (Int × Int)) : List Value := l.flatMap fun r => [.int .i64 r.1, .int .i64 r.2]
theorem enc_length (l : List (Int × Int)) : (enc l).length = l.length * 2 := by
  induction l with
  | nil => rfl
  | cons r t ih => simp [enc] at ih ⊢; omega
theorem enc_append (a b : List (Int × Int)) : enc (a ++ b) = enc a ++ enc b := by simp [enc]
theorem enc_cons (r : Int × Int) (t : List (Int × Int)) : enc (r :: t) = .int .i64 r.1 :: .int .i64 r.2 :: enc t := by simp [enc]
theorem enc_key (l : List (Int × Int)) (i : Nat) (h : i < l.length) : (enc l)[i * 2]? = some (.int .i64 (l.getD i (0, 0)).1) := by
  induction l generalizing i with
  | nil => simp at h
  | cons r t ih =>
    rw [enc_cons]
    cases i with
    | zero => simp
    | succ i => rw [show (i + 1) * 2 = i * 2 + 1 + 1 by omega, List.getElem?_cons_succ, List.getElem?_cons_succ, ih i (by simpa using h)]; simp
theorem enc_val (l : List (Int × Int)) (i : Nat) (h : i < l.length) : (enc l)[i * 2 + 1]? = some (.int .i64 (l.getD i (0, 0)).2) := by
  induction l generalizing i with
  | nil => simp at h
  | cons r t ih =>
    rw [enc_cons]
    cases i with
    | zero => simp
    | succ i => rw [show (i + 1) * 2 + 1 = i * 2 + 1 + 1 + 1 by omega, List.getElem?_cons_succ, List.getElem?_cons_succ, ih i (by simpa using h)]; simp
theorem enc_one (l : List (Int × Int)) : ∀ u ∈ enc l, u.oneCell' = true := by
  intro u hu
  simp only [enc, List.mem_flatMap] at hu
  obtain ⟨r, _, h⟩ := hu
  simp at h
  rcases h with rfl | rfl <;> rfl
theorem Rd.enc {w : World} {b off n : Nat} {l : List (Int × Int)} (hl : l.length = n)
    (hc : ∀ i, i < n → w.cell? ⟨b, off + i * 2, none⟩ = some (.int .i64 (l.getD i (0, 0)).1) ∧ w.cell? ⟨b, off + i * 2 + 1, none⟩ = some (.int .i64 (l.getD i (0, 0)).2)) :
    ∀ j u, (enc l)[j]? = some u → w.cell? ((⟨b, off, none⟩ : Addr).add j) = some u := by
  intro j u hj
  have hjl : j < (YtcgpgflnihjpiagGreat.enc l).length := (List.getElem?_eq_some_iff.1 hj).1
  rw [enc_length] at hjl
  have hi : j / 2 < l.length := by omega
  rcases Nat.mod_two_eq_zero_or_one j with h0 | h1
  · obtain ⟨i, rfl⟩ : ∃ i, j = i * 2 := ⟨j / 2, by omega⟩
    rw [enc_key l i (by omega)] at hj
    rw [← hj, Addr.add_lit]; exact (hc i (by omega)).1
  · obtain ⟨i, rfl⟩ : ∃ i, j = i * 2 + 1 := ⟨j / 2, by omega⟩
    rw [enc_val l i (by omega)] at hj
    rw [← hj, Addr.add_lit, ← Nat.add_assoc]
    exact (hc i (by omega)).2
def Own (w : World) (base : Nat) (v : Value) (l : List (Int × Int)) : Prop := w.ownsRow base 56 2 v l.length (enc l)
theorem Own.rd {w : World} {base : Nat} {v : Value} {l : List (Int × Int)} (h : Own w base v l) : ∃ a cap, v = .slice a l.length cap ∧ Rd w a l.length l ∧ l.length ≤ cap ∧ cap ≤ maxLen ∧ (a = none → l.length = 0 ∧ cap = 0) := by
  have h0 := h
  obtain ⟨h1, h2⟩ := h
  rcases h2 with ⟨rfl, hn⟩ | ⟨g, cap, cur, rfl, hb, hh, hc, hm, hs, hx⟩
  · exact ⟨none, 0, by rw [hn], ⟨rfl, Or.inl hn⟩, by omega, by simp [maxLen], fun _ => ⟨hn, rfl⟩⟩
  · refine ⟨_, cap, rfl, ⟨rfl, ?_⟩, hc, hm, fun h => by simp at h⟩
    have hlt : g < w.heap.size := (Array.getElem?_eq_some_iff.1 hh).1
    refine Or.inr ⟨g, 0, rfl, hlt, fun i hi => ⟨?_, ?_⟩⟩
    · rw [World.ownsRow.cellAt h0 (0 + i * 2) (by omega), Nat.zero_add, enc_key l i hi]
    · rw [World.ownsRow.cellAt h0 (0 + i * 2 + 1) (by omega), Nat.zero_add, enc_val l i hi]
theorem infoRow : (Tryz.prog.info? 56).map (fun i => (i.zero, i.size, i.bytes)) = some (some (.agg #[.int .i64 0, .int .i64 0]), 2, 16) := by kernel_rfl
theorem append_rd {w : World} {ops : Array Oper} {rest : List Oper} {o : Oper} {a : Act} {Q : Exit → Act → World → Prop} (hgd : o.guard = none) (s x : Operand)
    (ho : o.op = .call { callee := .builtin .append, args := #[s, x], argTypes := #[47, 47] })
    (base : Nat) (v : Value) (l : List (Int × Int)) (hs : a.eval s = v) (hown : Own w base v l)
    (ao : Option Addr) (m c : Nat) (l2 : List (Int × Int)) (hx : a.eval x = .slice ao m c) (hr : Rd w ao m l2) (hnil : ao = none → m = 0 ∧ c = 0)
    (hbig : l.length + m ≤ 1000000) (hbase : base ≤ w.heap.size)
    (h : ∀ v' w', Own w' base v' (l ++ l2) → Below base w w' → wpList Tryz.prog ops Q rest (a.put o.dst v') w') : wpList Tryz.prog ops Q (o :: rest) a w := by
  obtain ⟨i0, hi, hz0, hz1, hz2⟩ := info_parts infoRow
  cases ao with
  | none =>
    obtain ⟨rfl, rfl⟩ := hnil rfl
    have e2 : l2 = [] := List.eq_nil_of_length_eq_zero hr.1
    subst e2
    refine wpList_append_own_none hgd s x 47 ho base 56 i0 2 Tryz.underlying47 hi v l.length (enc l) hs hown hx ?_
    exact h v w (by simpa using hown) (Below.refl _ _)
  | some ad =>
    have hm2 : (enc l2).length = m * 2 := by rw [enc_length, hr.1]
    have hnews : ∀ j u, (enc l2)[j]? = some u → w.cell? (ad.add j) = some u := by
      rcases hr.cases with ⟨rfl, rfl⟩ | ⟨b, off, hab, hn, hl, hB, hc⟩
      · intro j u hj; simp [YtcgpgflnihjpiagGreat.enc] at hj
      · obtain rfl : ad = ⟨b, off, none⟩ := by simpa using hab
        exact Rd.enc hl hc
    refine wpList_append_own _ hgd s x 47 ho base 56 i0 (.agg #[.int .i64 0, .int .i64 0]) 2 16 Tryz.underlying47 hi hz0 hz1 hz2 rfl (by decide) v l.length (enc l) hs hown ad m c (enc l2) hx hm2 hnews (enc_one l2)
      (by simp only [maxLen]; omega) (by omega) hbase ?_
    intro v' w' h1 h2 _
    refine h v' w' ?_ ((Below.refl _ _).grown h2 hbase fun k hk => (World.ownsRow.lt hown k hk).1)
    unfold Own
    rw [enc_append, List.length_append, hr.1]
    exact h1
theorem Rd.zero {w : World} {a : Option Addr} {n : Nat} {l : List (Int × Int)} (h : n = 0) (hl : l.length = n) : Rd w a n l := ⟨hl, Or.inl h⟩
theorem Rd.take {w : World} {a : Option Addr} {n : Nat} {l : List (Int × Int)} (h : Rd w a n l) (k : Nat) (hk : k ≤ n) : Rd w a k (l.take k) := by
  obtain ⟨h1, h2⟩ := h
  refine ⟨by rw [List.length_take]; omega, ?_⟩
  rcases h2 with h2 | ⟨b, off, ha, hlt, hc⟩
  · exact Or.inl (by omega)
  · refine Or.inr ⟨b, off, ha, hlt, fun i hi => ?_⟩
    have e : (l.take k).getD i (0, 0) = l.getD i (0, 0) := by simp [List.getD, hi]
    rw [e]; exact hc i (by omega)
theorem Rd.drop {w : World} {b off n : Nat} {l : List (Int × Int)} (h : Rd w (some ⟨b, off, none⟩) n l) (k : Nat) : Rd w (some ⟨b, off + k * 2, none⟩) (n - k) (l.drop k) := by
  obtain ⟨h1, h2⟩ := h
  refine ⟨by rw [List.length_drop]; omega, ?_⟩
  by_cases hk : n ≤ k
  · exact Or.inl (by omega)
  · rcases h2 with h2 | ⟨b', off', ha, hlt, hc⟩
    · exact Or.inl (by omega)
    · obtain ⟨rfl, rfl⟩ : b = b' ∧ off = off' := by simpa using ha
      refine Or.inr ⟨b, off + k * 2, rfl, hlt, fun i hi => ?_⟩
      have e : (l.drop k).getD i (0, 0) = l.getD (k + i) (0, 0) := by simp [List.getD]
      have := hc (k + i) (by omega)
      rw [e, show off + k * 2 + i * 2 = off + (k + i) * 2 by omega]
      exact this
theorem drewN_below (w : World) (m : Nat) : Below w.heap.size w (w.drewN m) := below_drewN (Below.refl _ _) m
theorem one_rd (w : World) (key val : Int) : Rd (w.alloc (.cells #[.int .i64 key, .int .i64 val] 56)) (some ⟨w.heap.size, 0, none⟩) 1 [(key, val)] := by
  refine ⟨rfl, Or.inr ⟨w.heap.size, 0, rfl, by simp, fun i hi => ?_⟩⟩
  obtain rfl : i = 0 := by omega
  constructor <;> simp [go_sem]
theorem flat_take (LL : List (List (Int × Int))) (i : Nat) (h : i < LL.length) : (LL.take (i + 1)).flatten = (LL.take i).flatten ++ LL.getD i [] := by
  rw [List.take_succ_eq_append_getElem h, List.flatten_append]
  simp [List.getD, h]
theorem flat_le (LL : List (List (Int × Int))) (i : Nat) : (LL.take i).flatten.length ≤ LL.flatten.length := by
  have h := congrArg (fun x => x.flatten.length) (List.take_append_drop i LL)
  simp only [List.flatten_append, List.length_append] at h
  omega
theorem ownsRow_elsewhere {W W' : World} {base : Nat} {e : TypeId} {size : Nat} {v : Value} {n : Nat} {xs : List Value} (h : W.ownsRow base e size v n xs) {row : Option Nat} (hg : W.grownBy W' row)
    (hrow : ∀ r, row = some r → ∀ cur, W.heap[r]? ≠ some (.cells cur e (0, 0))) : W'.ownsRow base e size v n xs := by
  refine h.kept hg ?_
  rcases h.2 with ⟨rfl, _⟩ | ⟨g, cap, cur, rfl, _, hgb, _⟩
  · exact .inl rfl
  · exact .inr fun e' => hrow g (by simpa [Value.ownBlock] using e'.symm) cur hgb
theorem ownsRow_later {w w' : World} {base : Nat} {e : TypeId} {size : Nat} {v : Value} {n : Nat} {xs : List Value} (h : w.ownsRow base e size v n xs) (hb : Below w.heap.size w w') : w'.ownsRow base e size v n xs := by
  obtain ⟨h1, h2⟩ := h
  refine ⟨h1, ?_⟩
  rcases h2 with h2 | ⟨g, cap, cur, hv, hg, hh, r⟩
  · exact Or.inl h2
  · exact Or.inr ⟨g, cap, cur, hv, hg, (hb.block g (Array.getElem?_eq_some_iff.1 hh).1).trans hh, r⟩
theorem ownsRow_lower {w : World} {base base' : Nat} {e : TypeId} {size : Nat} {v : Value} {n : Nat} {xs : List Value} (h : w.ownsRow base e size v n xs) (hb : base' ≤ base) : w.ownsRow base' e size v n xs := by
  obtain ⟨h1, h2⟩ := h
  refine ⟨h1, ?_⟩
  rcases h2 with h2 | ⟨g, cap, cur, hv, hg, r⟩
  · exact Or.inl h2
  · exact Or.inr ⟨g, cap, cur, hv, Nat.le_trans hb hg, r⟩
theorem grownBy_set (W : World) (a : Addr) (v : Value) : W.grownBy (W.setCell a v) (some a.block) :=
  ⟨rfl, rfl, rfl, by simp [World.setCell], fun k _ hne => heap_setCell_other W a k v (fun e => hne (by rw [e]))⟩
def encH (H : List M.Hd) : List Value := H.flatMap fun h => [.string h.1, .int .i64 h.2]
theorem encH_length (H : List M.Hd) : (encH H).length = H.length * 2 := by
  induction H with
  | nil => rfl
  | cons r t ih => simp [encH] at ih ⊢; omega
theorem encH_append (a b : List M.Hd) : encH (a ++ b) = encH a ++ encH b := by simp [encH]
theorem encH_cons (r : M.Hd) (t : List M.Hd) : encH (r :: t) = .string r.1 :: .int .i64 r.2 :: encH t := by simp [encH]
theorem encH_name (l : List M.Hd) (i : Nat) (h : i < l.length) : (encH l)[i * 2]? = some (.string (l.getD i M.hd0).1) := by
  induction l generalizing i with
  | nil => simp at h
  | cons r t ih =>
    rw [encH_cons]
    cases i with
    | zero => simp
    | succ i => rw [show (i + 1) * 2 = i * 2 + 1 + 1 by omega, List.getElem?_cons_succ, List.getElem?_cons_succ, ih i (by simpa using h)]; simp
theorem encH_at (l : List M.Hd) (i : Nat) (h : i < l.length) : (encH l)[i * 2 + 1]? = some (.int .i64 (l.getD i M.hd0).2) := by
  induction l generalizing i with
  | nil => simp at h
  | cons r t ih =>
    rw [encH_cons]
    cases i with
    | zero => simp
    | succ i => rw [show (i + 1) * 2 + 1 = i * 2 + 1 + 1 + 1 by omega, List.getElem?_cons_succ, List.getElem?_cons_succ, ih i (by simpa using h)]; simp
theorem encH_one (l : List M.Hd) : ∀ u ∈ encH l, u.oneCell' = true := by
  intro u hu
  simp only [encH, List.mem_flatMap] at hu
  obtain ⟨r, _, h⟩ := hu
  simp at h
  rcases h with rfl | rfl <;> rfl
def OwnH (w : World) (base : Nat) (v : Value) (H : List M.Hd) : Prop := w.ownsRow base 58 2 v H.length (encH H) ∧ ∀ x ∈ H, x.1.size ≤ 9223372036854775807
theorem OwnH.hs {w : World} {base : Nat} {v : Value} {H : List M.Hd} (h : OwnH w base v H) : ∃ a cap, v = .slice a H.length cap ∧ Hs w a H.length H ∧ H.length ≤ cap ∧ cap ≤ maxLen ∧ (a = none → H.length = 0 ∧ cap = 0) := by
  have h0 := h.1
  obtain ⟨⟨h1, h2⟩, hs⟩ := h
  rcases h2 with ⟨rfl, hn⟩ | ⟨g, cap, cur, rfl, hb, hh, hc, hm, hz, hx⟩
  · exact ⟨none, 0, by rw [hn], ⟨rfl, Or.inl hn⟩, by omega, by simp [maxLen], fun _ => ⟨hn, rfl⟩⟩
  · refine ⟨_, cap, rfl, ⟨rfl, ?_⟩, hc, hm, fun h => by simp at h⟩
    have hlt : g < w.heap.size := (Array.getElem?_eq_some_iff.1 hh).1
    refine Or.inr ⟨g, 0, rfl, hlt, fun i hi => ⟨?_, ?_, ?_⟩⟩
    · rw [World.ownsRow.cellAt h0 (0 + i * 2) (by omega), Nat.zero_add, encH_name H i hi]
    · rw [World.ownsRow.cellAt h0 (0 + i * 2 + 1) (by omega), Nat.zero_add, encH_at H i hi]
    · exact hs _ (by simp [List.getD, hi])
theorem OwnH.later {w w' : World} {base : Nat} {v : Value} {H : List M.Hd} (h : OwnH w base v H) (hb : Below w.heap.size w w') : OwnH w' base v H := ⟨ownsRow_later h.1 hb, h.2⟩
theorem OwnH.lower {w : World} {base base' : Nat} {v : Value} {H : List M.Hd} (h : OwnH w base v H) (hb : base' ≤ base) : OwnH w base' v H := ⟨ownsRow_lower h.1 hb, h.2⟩
theorem OwnH.nil (w : World) (base : Nat) : OwnH w base (.slice none 0 0) [] := ⟨World.ownsRow_nil _ _ _ _, fun x hx => by simp at hx⟩
def encP (l : List (Value × Value)) : List Value := l.flatMap fun p => [p.1, p.2]
theorem encP_append (a b : List (Value × Value)) : encP (a ++ b) = encP a ++ encP b := by simp [encP]
theorem encP_cons (r : Value × Value) (t : List (Value × Value)) : encP (r :: t) = r.1 :: r.2 :: encP t := by simp [encP]
def vp0 : Value × Value := (.slice none 0 0, .slice none 0 0)
theorem encP_fst (l : List (Value × Value)) (i : Nat) (h : i < l.length) : (encP l)[i * 2]? = some (l.getD i vp0).1 := by
  induction l generalizing i with
  | nil => simp at h
  | cons r t ih =>
    rw [encP_cons]
    cases i with
    | zero => simp
    | succ i => rw [show (i + 1) * 2 = i * 2 + 1 + 1 by omega, List.getElem?_cons_succ, List.getElem?_cons_succ, ih i (by simpa using h)]; simp
theorem encP_snd (l : List (Value × Value)) (i : Nat) (h : i < l.length) : (encP l)[i * 2 + 1]? = some (l.getD i vp0).2 := by
  induction l generalizing i with
  | nil => simp at h
  | cons r t ih =>
    rw [encP_cons]
    cases i with
    | zero => simp
    | succ i => rw [show (i + 1) * 2 + 1 = i * 2 + 1 + 1 + 1 by omega, List.getElem?_cons_succ, List.getElem?_cons_succ, ih i (by simpa using h)]; simp
def OwnCo (w : World) (base : Nat) (p : Value × Value) (c : M.Com) : Prop := Own w base p.1 c.1 ∧ OwnI w base p.2 c.2 ∧ c.1.length ≤ 1000000 ∧ c.2.length ≤ 1000000
def OwnK (w : World) (base : Nat) (v : Value) (C : List M.Com) : Prop :=
  ∃ vals : List (Value × Value), vals.length = C.length ∧ w.ownsRow base 54 2 v C.length (encP vals) ∧ ∀ i, i < C.length → OwnCo w base (vals.getD i vp0) (C.getD i ([], []))
theorem OwnK.nil (w : World) (base : Nat) : OwnK w base (.slice none 0 0) [] := ⟨[], rfl, World.ownsRow_nil _ _ _ _, fun i hi => by simp at hi⟩
theorem OwnCo.later {w w' : World} {base : Nat} {p : Value × Value} {c : M.Com} (h : OwnCo w base p c) (hb : Below w.heap.size w w') : OwnCo w' base p c := ⟨ownsRow_later h.1 hb, ownsRow_later h.2.1 hb, h.2.2⟩
theorem OwnK.later {w w' : World} {base : Nat} {v : Value} {C : List M.Com} (h : OwnK w base v C) (hb : Below w.heap.size w w') : OwnK w' base v C := by
  obtain ⟨vals, h1, h2, h3⟩ := h
  exact ⟨vals, h1, ownsRow_later h2 hb, fun i hi => (h3 i hi).later hb⟩
theorem OwnK.lower {w : World} {base base' : Nat} {v : Value} {C : List M.Com} (h : OwnK w base v C) (hb : base' ≤ base) : OwnK w base' v C := by
  obtain ⟨vals, h1, h2, h3⟩ := h
  exact ⟨vals, h1, ownsRow_lower h2 hb, fun i hi => ⟨ownsRow_lower (h3 i hi).1 hb, ownsRow_lower (h3 i hi).2.1 hb, (h3 i hi).2.2⟩⟩
theorem OwnK.elsewhere {w w' : World} {base : Nat} {v : Value} {C : List M.Com} (h : OwnK w base v C) {r : Nat} (hg : w.grownBy w' (some r)) {cur0 : Array Value} {t : TypeId} (hr : w.heap[r]? = some (.cells cur0 t (0, 0))) (h1 : t ≠ 54) (h2 : t ≠ 56) (h3 : t ≠ 3) : OwnK w' base v C := by
  have no : ∀ e, t ≠ e → ∀ r', some r = some r' → ∀ cur, w.heap[r']? ≠ some (.cells cur e (0, 0)) := fun e he r' hr' cur hc => by
    cases hr'
    rw [hr] at hc
    simp at hc
    exact he hc.2
  obtain ⟨vals, k1, k2, k3⟩ := h
  exact ⟨vals, k1, ownsRow_elsewhere k2 hg (no _ h1), fun i hi => ⟨ownsRow_elsewhere (k3 i hi).1 hg (no _ h2), ownsRow_elsewhere (k3 i hi).2.1 hg (no _ h3), (k3 i hi).2.2⟩⟩
theorem OwnH.elsewhere {w w' : World} {base : Nat} {v : Value} {H : List M.Hd} (h : OwnH w base v H) {r : Nat} (hg : w.grownBy w' (some r)) {cur0 : Array Value} {t : TypeId} (hr : w.heap[r]? = some (.cells cur0 t (0, 0))) (h1 : t ≠ 58) : OwnH w' base v H :=
  ⟨ownsRow_elsewhere h.1 hg (fun r' hr' cur hc => by
    cases hr'
    rw [hr] at hc
    simp at hc
    exact h1 hc.2), h.2⟩
def Cn (w : World) (a : Option Addr) (n : Nat) : Prop := ∀ b off, a = some ⟨b, off, none⟩ → ∀ i, i < n → ∀ x m c, (w.cell? ⟨b, off + i * 2, none⟩ = some (.slice x m c) ∨ w.cell? ⟨b, off + i * 2 + 1, none⟩ = some (.slice x m c)) → x = none → m = 0 ∧ c = 0
theorem own_nil {w : World} {base : Nat} {e : TypeId} {size : Nat} {a : Option Addr} {n cap k : Nat} {xs : List Value} (h : w.ownsRow base e size (.slice a n cap) k xs) : a = none → n = 0 ∧ cap = 0 := by
  intro ha
  subst ha
  rcases h.2 with ⟨hv, hn⟩ | ⟨g, cap', cur, hv, _⟩
  · simp at hv; omega
  · simp at hv
theorem OwnK.cm {w : World} {base : Nat} {v : Value} {C : List M.Com} (h : OwnK w base v C) : ∃ a cap, v = .slice a C.length cap ∧ Cm w a C.length C ∧ Cn w a C.length ∧ C.length ≤ cap ∧ cap ≤ maxLen ∧ (a = none → C.length = 0 ∧ cap = 0) := by
  obtain ⟨vals, hl, h0, hv⟩ := h
  obtain ⟨h1, h2⟩ := h0
  rcases h2 with ⟨rfl, hn⟩ | ⟨g, cap, cur, rfl, hb, hh, hc, hm, hz, hx⟩
  · exact ⟨none, 0, by rw [hn], ⟨rfl, Or.inl hn⟩, fun b off e => by simp at e, by omega, by simp [maxLen], fun _ => ⟨hn, rfl⟩⟩
  · have h0 : w.ownsRow base 54 2 (.slice (some ⟨g, 0, none⟩) C.length cap) C.length (encP vals) := ⟨h1, Or.inr ⟨g, cap, cur, rfl, hb, hh, hc, hm, hz, hx⟩⟩
    have hlt : g < w.heap.size := (Array.getElem?_eq_some_iff.1 hh).1
    have cells : ∀ i, i < C.length → w.cell? ⟨g, 0 + i * 2, none⟩ = some (vals.getD i vp0).1 ∧ w.cell? ⟨g, 0 + i * 2 + 1, none⟩ = some (vals.getD i vp0).2 := fun i hi => by
      refine ⟨?_, ?_⟩
      · rw [World.ownsRow.cellAt h0 (0 + i * 2) (by omega), Nat.zero_add, encP_fst vals i (by omega)]
      · rw [World.ownsRow.cellAt h0 (0 + i * 2 + 1) (by omega), Nat.zero_add, encP_snd vals i (by omega)]
    refine ⟨_, cap, rfl, ⟨rfl, Or.inr ⟨g, 0, rfl, hlt, fun i hi => ?_⟩⟩, ?_, hc, hm, fun h => by simp at h⟩
    · obtain ⟨k1, k2⟩ := cells i hi
      obtain ⟨o1, o2, o3, o4⟩ := hv i hi
      obtain ⟨a1, c1, e1, r1, _⟩ := o1.rd
      obtain ⟨a2, c2, e2, r2, _⟩ := o2.ri
      exact ⟨a1, _, c1, a2, _, c2, by rw [k1, e1], by rw [k2, e2], r1, r2, by omega, by omega⟩
    · intro b off e i hi x m c hor hx
      cases e
      obtain ⟨k1, k2⟩ := cells i hi
      obtain ⟨o1, o2, _⟩ := hv i hi
      rcases hor with hcc | hcc
      · have hcc := Option.some.inj (k1.symm.trans hcc)
        unfold Own at o1
        rw [hcc] at o1
        exact own_nil o1 hx
      · have hcc := Option.some.inj (k2.symm.trans hcc)
        unfold OwnI at o2
        rw [hcc] at o2
        exact own_nil o2 hx
def RepoOwn (w : World) (base : Nat) (v : Value) (C : List M.Com) (H : List M.Hd) : Prop := ∃ x y, v = .agg #[x, y] ∧ OwnK w base x C ∧ OwnH w base y H
theorem RepoOwn.none (w : World) (base : Nat) : RepoOwn w base (.agg #[.slice none 0 0, .slice none 0 0]) [] [] := ⟨_, _, rfl, OwnK.nil _ _, OwnH.nil _ _⟩
theorem RepoOwn.later {w w' : World} {base : Nat} {v : Value} {C : List M.Com} {H : List M.Hd} (h : RepoOwn w base v C H) (hb : Below w.heap.size w w') : RepoOwn w' base v C H := by
  obtain ⟨x, y, e, h1, h2⟩ := h
  exact ⟨x, y, e, h1.later hb, h2.later hb⟩
theorem RepoOwn.lower {w : World} {base base' : Nat} {v : Value} {C : List M.Com} {H : List M.Hd} (h : RepoOwn w base v C H) (hb : base' ≤ base) : RepoOwn w base' v C H := by
  obtain ⟨x, y, e, h1, h2⟩ := h
  exact ⟨x, y, e, h1.lower hb, h2.lower hb⟩
structure RepoV (w : World) (a : Option Addr) (n cap : Nat) (C : List M.Com) (a2 : Option Addr) (n2 cap2 : Nat) (H : List M.Hd) : Prop where
  cm : Cm w a n C
  cn : Cn w a n
  nm : n ≤ 9223372036854775807
  hs : Hs w a2 n2 H
  hm : n2 ≤ 9223372036854775807
  hn : a2 = none → n2 = 0 ∧ cap2 = 0
theorem RepoV.later {w w' : World} {a : Option Addr} {n cap : Nat} {C : List M.Com} {a2 : Option Addr} {n2 cap2 : Nat} {H : List M.Hd} (h : RepoV w a n cap C a2 n2 cap2 H) (hb : Below w.heap.size w w') : RepoV w' a n cap C a2 n2 cap2 H := by
  refine ⟨h.cm.below hb (Nat.le_refl _), ?_, h.nm, h.hs.below hb (Nat.le_refl _), h.hm, h.hn⟩
  intro b off e i hi x m c hor hx
  rcases h.cm.cases with ⟨h0, _⟩ | ⟨b', off', e', _, _, hB, _⟩
  · omega
  · rw [e] at e'
    cases e'
    refine h.cn b off e i hi x m c ?_ hx
    rw [hb.cell (p := ⟨b, off + i * 2, none⟩) hB, hb.cell (p := ⟨b, off + i * 2 + 1, none⟩) hB] at hor
    exact hor
theorem RepoOwn.v {w : World} {base : Nat} {v : Value} {C : List M.Com} {H : List M.Hd} (h : RepoOwn w base v C H) : ∃ a cap a2 cap2, v = .agg #[.slice a C.length cap, .slice a2 H.length cap2] ∧ RepoV w a C.length cap C a2 H.length cap2 H := by
  obtain ⟨x, y, e, h1, h2⟩ := h
  obtain ⟨a, cap, rfl, k1, k2, k3, k4, _⟩ := h1.cm
  obtain ⟨a2, cap2, rfl, l1, l2, l3, l4⟩ := h2.hs
  exact ⟨a, cap, a2, cap2, e, ⟨k1, k2, by unfold maxLen at k4; omega, l1, by unfold maxLen at l3; omega, l4⟩⟩
theorem infoHead : (Tryz.prog.info? 58).map (fun i => (i.zero, i.size, i.bytes)) = some (some (.agg #[.string ⟨#[]⟩, .int .i64 0]), 2, 24) := by kernel_rfl
theorem infoCommit : (Tryz.prog.info? 54).map (fun i => (i.zero, i.size, i.bytes)) = some (some (.agg #[.slice none 0 0, .slice none 0 0]), 2, 48) := by kernel_rfl
theorem Hs.enc {w : World} {ad : Addr} {n : Nat} {H : List M.Hd} (h : Hs w (some ad) n H) : ∀ j u, (encH H)[j]? = some u → w.cell? (ad.add j) = some u := by
  intro j u hj
  have hjl : j < (encH H).length := (List.getElem?_eq_some_iff.1 hj).1
  rw [encH_length] at hjl
  rcases h.cases with ⟨_, rfl⟩ | ⟨b, off, ea, _, hl, _, hc⟩
  · simp at hjl
  · obtain rfl : ad = ⟨b, off, none⟩ := by simpa using ea
    rcases Nat.mod_two_eq_zero_or_one j with h0 | h1
    · obtain ⟨i, rfl⟩ : ∃ i, j = i * 2 := ⟨j / 2, by omega⟩
      rw [encH_name H i (by omega)] at hj
      rw [← hj, Addr.add_lit]; exact (hc i (by omega)).1
    · obtain ⟨i, rfl⟩ : ∃ i, j = i * 2 + 1 := ⟨j / 2, by omega⟩
      rw [encH_at H i (by omega)] at hj
      rw [← hj, Addr.add_lit, ← Nat.add_assoc]
      exact (hc i (by omega)).2.1
theorem Ri.enc {w : World} {ad : Addr} {n : Nat} {l : List Int} (h : Ri w (some ad) n l) : ∀ j u, (l.map (Value.int .i64))[j]? = some u → w.cell? (ad.add j) = some u := by
  intro j u hj
  have hjl : j < l.length := by have := (List.getElem?_eq_some_iff.1 hj).1; simpa using this
  rcases h.cases with ⟨_, rfl⟩ | ⟨b, off, ea, _, hl, _, hc⟩
  · simp at hjl
  · obtain rfl : ad = ⟨b, off, none⟩ := by simpa using ea
    rw [Addr.add_lit, hc j (by omega), ← hj]
    simp [List.getD, hjl]
end Go.Proofs.YtcgpgflnihjpiagGreat
namespace Go.Proofs.YtcgpgflnihjpiagGreat
open Go.RowKit
theorem step_append_any {w : World} {ops : Array Oper} {o : Oper} {a : Act} {K : Act → World → Prop} {Q : Exit → Act → World → Prop} {E : Prop} (hgd : o.guard = none) (s x : Operand) (t : TypeId)
    (ho : o.op = .call { callee := .builtin .append, args := #[s, x], argTypes := #[t, t] })
    (base : Nat) (e : TypeId) (i : TypeInfo) (z : Value) (size bytes : Nat) (ht : Tryz.prog.underlying t = some (.slice e)) (hi : Tryz.prog.info? e = some i) (hz : i.zero = some z)
    (hsize : i.size = size) (hby : i.bytes = bytes) (hzs : z.cells.size = size) (hsz : 0 < size)
    (v : Value) (n : Nat) (xs : List Value) (hs : a.eval s = v) (hown : w.ownsRow base e size v n xs)
    (ao : Option Addr) (m c : Nat) (news : List Value) (hx : a.eval x = .slice ao m c) (hl : news.length = m * size) (hnews : ∀ ad, ao = some ad → ∀ j u, news[j]? = some u → w.cell? (ad.add j) = some u) (hnil : ao = none → m = 0 ∧ c = 0) (h1 : ∀ u ∈ news, u.oneCell' = true)
    (h63 : n + m ≤ maxLen) (hbytes : (n + m) * bytes ≤ 140737488355328) (hbase : base ≤ w.heap.size)
    (h : ∀ v' w', w'.ownsRow base e size v' (n + m) (xs ++ news) → w.grownBy w' v.ownBlock → K (a.put o.dst v') w') :
    if Region.wanted o (yielded ops a.tmps) = true then Oper.wp Tryz.prog o a w K Q else E := by
  have hw : Region.wanted o (yielded ops a.tmps) = true := by simp [Region.wanted, hgd]
  rw [if_pos hw]
  cases ao with
  | none =>
    obtain ⟨rfl, rfl⟩ := hnil rfl
    have e2 : news = [] := List.eq_nil_of_length_eq_zero (by omega)
    subst e2
    have hrun := run_append_owned_none (P := Tryz.prog) (w := w) base t o.type e i size ht hi v n xs hown
    have hk := h v w (by simpa using hown) ⟨rfl, rfl, rfl, Nat.le_refl _, fun _ _ _ => rfl⟩
    unfold Oper.wp
    simp [execOp, ho, resolve, invoke, builtin, hs, hx, hrun, Result.andThen]
    exact hk
  | some ad =>
    exact wp_append_own w s x t ho base e i z size bytes ht hi hz hsize hby hzs hsz v n xs hs hown ad m c news hx hl (hnews ad rfl) h1 h63 hbytes hbase (fun v' w' k1 k2 _ => h v' w' k1 k2)
theorem news_rd {w : World} {ao : Option Addr} {n : Nat} {l : List (Int × Int)} (h : Rd w ao n l) : ∀ ad, ao = some ad → ∀ j u, (enc l)[j]? = some u → w.cell? (ad.add j) = some u := by
  intro ad e
  rcases h.cases with ⟨rfl, rfl⟩ | ⟨b, off, hab, hn, hl, hB, hc⟩
  · intro j u hj; simp [YtcgpgflnihjpiagGreat.enc] at hj
  · obtain rfl : ad = ⟨b, off, none⟩ := by rw [e] at hab; simpa using hab
    exact Rd.enc hl hc
theorem news_ri {w : World} {ao : Option Addr} {n : Nat} {l : List Int} (h : Ri w ao n l) : ∀ ad, ao = some ad → ∀ j u, (l.map (Value.int .i64))[j]? = some u → w.cell? (ad.add j) = some u := by
  intro ad e j u hj
  rcases h.cases with ⟨rfl, rfl⟩ | ⟨b, off, hab, hn, hl, hB, hc⟩
  · simp at hj
  · obtain rfl : ad = ⟨b, off, none⟩ := by rw [e] at hab; simpa using hab
    have hjl : j < l.length := by have := (List.getElem?_eq_some_iff.1 hj).1; simpa using this
    rw [Addr.add_lit, hc j (by omega)]
    simp [List.getElem?_map, List.getElem?_eq_getElem hjl] at hj
    rw [← hj]
    simp [List.getD, hjl]
theorem news_hs {w : World} {ao : Option Addr} {n : Nat} {H : List M.Hd} (h : Hs w ao n H) : ∀ ad, ao = some ad → ∀ j u, (encH H)[j]? = some u → w.cell? (ad.add j) = some u := by
  intro ad e j u hj
  obtain ⟨hl, h0 | ⟨b, off, hab, hB, hc⟩⟩ := h
  · obtain rfl : H = [] := List.eq_nil_of_length_eq_zero (by omega)
    simp [encH] at hj
  · obtain rfl : ad = ⟨b, off, none⟩ := by rw [e] at hab; simpa using hab
    have hjl : j < (encH H).length := (List.getElem?_eq_some_iff.1 hj).1
    rw [encH_length] at hjl
    have q := hc (j / 2) (by omega)
    rw [Addr.add_lit]
    have h2 : j % 2 = 0 ∨ j % 2 = 1 := by omega
    rcases h2 with h2 | h2
    · have ej : j = j / 2 * 2 := by omega
      rw [ej] at hj ⊢
      rw [encH_name H (j / 2) (by omega)] at hj
      rw [← hj]; exact q.1
    · have ej : j = j / 2 * 2 + 1 := by omega
      rw [ej] at hj ⊢
      rw [encH_at H (j / 2) (by omega)] at hj
      rw [← hj, ← Nat.add_assoc]; exact q.2.1
theorem hs_small {w : World} {ao : Option Addr} {n : Nat} {H : List M.Hd} (h : Hs w ao n H) : ∀ x ∈ H, x.1.size ≤ 9223372036854775807 := by
  intro x hx
  obtain ⟨i, hi, e⟩ := List.getElem_of_mem hx
  obtain ⟨hl, h0 | ⟨b, off, hab, hB, hc⟩⟩ := h
  · omega
  · have := (hc i (by omega)).2.2
    rwa [show H.getD i M.hd0 = x by simp [List.getD, hi, e]] at this
theorem step_rows {w : World} {ops : Array Oper} {o : Oper} {a : Act} {K : Act → World → Prop} {Q : Exit → Act → World → Prop} {E : Prop} (hgd : o.guard = none) (s x : Operand)
    (ho : o.op = .call { callee := .builtin .append, args := #[s, x], argTypes := #[47, 47] })
    (base : Nat) (v : Value) (l : List (Int × Int)) (hs : a.eval s = v) (hown : Own w base v l)
    (ao : Option Addr) (m c : Nat) (l2 : List (Int × Int)) (hx : a.eval x = .slice ao m c) (hr : Rd w ao m l2) (hnil : ao = none → m = 0 ∧ c = 0)
    (hbig : l.length + m ≤ 1000000) (hbase : base ≤ w.heap.size)
    (h : ∀ v' w', Own w' base v' (l ++ l2) → w.grownBy w' v.ownBlock → K (a.put o.dst v') w') :
    if Region.wanted o (yielded ops a.tmps) = true then Oper.wp Tryz.prog o a w K Q else E := by
  obtain ⟨i0, hi, hz0, hz1, hz2⟩ := info_parts infoRow
  refine step_append_any hgd s x 47 ho base 56 i0 (.agg #[.int .i64 0, .int .i64 0]) 2 16 Tryz.underlying47 hi hz0 hz1 hz2 rfl (by decide) v l.length (enc l) hs hown ao m c (enc l2) hx (by rw [enc_length, hr.1]) (news_rd hr) hnil (enc_one l2)
    (by simp only [maxLen]; omega) (by omega) hbase ?_
  intro v' w' h1 h2
  refine h v' w' ?_ h2
  unfold Own
  rw [enc_append, List.length_append, hr.1]
  exact h1
theorem step_ints {w : World} {ops : Array Oper} {o : Oper} {a : Act} {K : Act → World → Prop} {Q : Exit → Act → World → Prop} {E : Prop} (hgd : o.guard = none) (s x : Operand)
    (ho : o.op = .call { callee := .builtin .append, args := #[s, x], argTypes := #[24, 24] })
    (base : Nat) (v : Value) (l : List Int) (hs : a.eval s = v) (hown : OwnI w base v l)
    (ao : Option Addr) (m c : Nat) (l2 : List Int) (hx : a.eval x = .slice ao m c) (hr : Ri w ao m l2) (hnil : ao = none → m = 0 ∧ c = 0)
    (hbig : l.length + m ≤ 1000000) (hbase : base ≤ w.heap.size)
    (h : ∀ v' w', OwnI w' base v' (l ++ l2) → w.grownBy w' v.ownBlock → K (a.put o.dst v') w') :
    if Region.wanted o (yielded ops a.tmps) = true then Oper.wp Tryz.prog o a w K Q else E := by
  obtain ⟨i0, hi, hz0, hz1, hz2⟩ := info_parts infoInt
  refine step_append_any hgd s x 24 ho base 3 i0 (.int .i64 0) 1 8 Tryz.underlying24 hi hz0 hz1 hz2 rfl (by decide) v l.length (l.map (Value.int .i64)) hs hown ao m c (l2.map (Value.int .i64)) hx (by rw [List.length_map, hr.1]; omega) (news_ri hr) hnil (fun u hu => by obtain ⟨q, _, rfl⟩ := List.mem_map.1 hu; rfl)
    (by simp only [maxLen]; omega) (by omega) hbase ?_
  intro v' w' h1 h2
  refine h v' w' ?_ h2
  unfold OwnI
  rw [List.map_append, List.length_append, hr.1]
  exact h1
theorem step_heads {w : World} {ops : Array Oper} {o : Oper} {a : Act} {K : Act → World → Prop} {Q : Exit → Act → World → Prop} {E : Prop} (hgd : o.guard = none) (s x : Operand)
    (ho : o.op = .call { callee := .builtin .append, args := #[s, x], argTypes := #[33, 33] })
    (base : Nat) (v : Value) (l : List M.Hd) (hs : a.eval s = v) (hown : OwnH w base v l)
    (ao : Option Addr) (m c : Nat) (l2 : List M.Hd) (hx : a.eval x = .slice ao m c) (hr : Hs w ao m l2) (hnil : ao = none → m = 0 ∧ c = 0)
    (hbig : l.length + m ≤ 1000000) (hbase : base ≤ w.heap.size)
    (h : ∀ v' w', OwnH w' base v' (l ++ l2) → w.grownBy w' v.ownBlock → K (a.put o.dst v') w') :
    if Region.wanted o (yielded ops a.tmps) = true then Oper.wp Tryz.prog o a w K Q else E := by
  obtain ⟨i0, hi, hz0, hz1, hz2⟩ := info_parts infoHead
  refine step_append_any hgd s x 33 ho base 58 i0 (.agg #[.string ⟨#[]⟩, .int .i64 0]) 2 24 Tryz.underlying33 hi hz0 hz1 hz2 rfl (by decide) v l.length (encH l) hs hown.1 ao m c (encH l2) hx (by rw [encH_length, hr.1]) (news_hs hr) hnil (encH_one l2)
    (by simp only [maxLen]; omega) (by omega) hbase ?_
  intro v' w' h1 h2
  refine h v' w' ⟨?_, fun x hx => ?_⟩ h2
  · rw [encH_append, List.length_append, hr.1]
    exact h1
  · rcases List.mem_append.1 hx with hx | hx
    · exact hown.2 x hx
    · exact hs_small hr x hx
theorem wpl_heads {w : World} {ops : Array Oper} {rest : List Oper} {o : Oper} {a : Act} {Q : Exit → Act → World → Prop} (hgd : o.guard = none) (s x : Operand)
    (ho : o.op = .call { callee := .builtin .append, args := #[s, x], argTypes := #[33, 33] })
    (base : Nat) (v : Value) (l : List M.Hd) (hs : a.eval s = v) (hown : OwnH w base v l)
    (ao : Option Addr) (m c : Nat) (l2 : List M.Hd) (hx : a.eval x = .slice ao m c) (hr : Hs w ao m l2) (hnil : ao = none → m = 0 ∧ c = 0)
    (hbig : l.length + m ≤ 1000000) (hbase : base ≤ w.heap.size)
    (h : ∀ v' w', OwnH w' base v' (l ++ l2) → w.grownBy w' v.ownBlock → wpList Tryz.prog ops Q rest (a.put o.dst v') w') : wpList Tryz.prog ops Q (o :: rest) a w := by
  refine wpList_plain hgd fun K hK => ?_
  have := step_heads (ops := ops) (K := K) (Q := Q) (E := True) hgd s x ho base v l hs hown ao m c l2 hx hr hnil hbig hbase (fun v' w' h1 h2 => hK _ _ (h v' w' h1 h2))
  rwa [if_pos (by simp [Region.wanted, hgd])] at this
theorem own_empty (w : World) (base : Nat) (e : TypeId) (size : Nat) (hb : base ≤ w.heap.size) : (w.alloc (.cells #[] e)).ownsRow base e size (.slice (some ⟨w.heap.size, 0, none⟩) 0 0) 0 [] :=
  ⟨by simp, Or.inr ⟨w.heap.size, 0, #[], rfl, hb, heap_alloc_new _ _, Nat.le_refl _, by simp [maxLen], by simp, by simp⟩⟩
section
variable {P : Program} {ops : Array Oper} {Q : Exit → Act → World → Prop} {md : Region.Mode} {S : World → Prop} {L : Nat}
theorem till_two (i j : Nat) {o o' : Oper} {fuel : Nat} {listed : Array Bool} {a : Act} {w : World} (ho : ops[i]? = some o) (ho' : ops[j]? = some o') (hiL : i ≠ L) (hjL : j ≠ L) (hr : Region.ready md ops listed = [i, j])
    (h : ∀ K' : Act → World → Prop, Shut (∀ a w, S w → (S w → Till P md ops Q S L fuel (listed.setIfInBounds i true) a w) → K' a w) → if Region.wanted o (yielded ops a.tmps) = true then Oper.wp P o a w K' Q else K' (a.put o.dst undef) w)
    (h' : ∀ K' : Act → World → Prop, Shut (∀ a w, S w → (S w → Till P md ops Q S L fuel (listed.setIfInBounds j true) a w) → K' a w) → if Region.wanted o' (yielded ops a.tmps) = true then Oper.wp P o' a w K' Q else K' (a.put o'.dst undef) w) :
    Till P md ops Q S L (fuel + 1) listed a w := by
  refine ⟨fun e => (by rw [hr] at e; cases e), fun k hk => ?_⟩
  rw [hr] at hk
  have hk2 : k = i ∨ k = j := by simpa using hk
  rcases hk2 with rfl | rfl
  · exact wpOp_step ho (fun K' hK => h K' (fun a w hS hW => hK a w ⟨fun _ _ => hS, hW hS⟩))
  · exact wpOp_step ho' (fun K' hK => h' K' (fun a w hS hW => hK a w ⟨fun _ _ => hS, hW hS⟩))
end
end Go.Proofs.YtcgpgflnihjpiagGreat
namespace Go.Proofs.YtcgpgflnihjpiagGreat
open Go.RowKit
def b8 (l : M.By) : List Value := l.map fun x => .int .u8 (x.toNat : Int)
theorem b8_append (a b : M.By) : b8 (a ++ b) = b8 a ++ b8 b := by simp [b8]
def OwnB (w : World) (base : Nat) (v : Value) (l : M.By) : Prop := w.ownsRow base 5 1 v l.length (b8 l)
def PenAt (w : World) (base b : Nat) (l : M.By) (ov : Bool) : Prop := ∃ v, w.heap[b]? = some (.cells #[v, .bool ov] 69 (0, 0)) ∧ base ≤ b ∧ OwnB w base v l
theorem PenAt.lt {w : World} {base b : Nat} {l : M.By} {ov : Bool} (h : PenAt w base b l ov) : b < w.heap.size := by
  obtain ⟨v, h1, _⟩ := h
  exact (Array.getElem?_eq_some_iff.1 h1).1
theorem PenAt.later {w w' : World} {base b : Nat} {l : M.By} {ov : Bool} (h : PenAt w base b l ov) (hb : Below w.heap.size w w') : PenAt w' base b l ov := by
  have hlt := h.lt
  obtain ⟨v, h1, h2, h3⟩ := h
  exact ⟨v, (hb.block b hlt).trans h1, h2, ownsRow_later h3 hb⟩
def Kp (w w' : World) : Prop := ∀ (k : Nat) (cur : Array Value) (t : TypeId), t ≠ 69 → t ≠ 5 → w.heap[k]? = some (.cells cur t (0, 0)) → w'.heap[k]? = some (.cells cur t (0, 0))
theorem Kp.refl (w : World) : Kp w w := fun _ _ _ _ _ h => h
theorem Kp.trans {a b c : World} (h : Kp a b) (k : Kp b c) : Kp a c := fun n cur t h1 h2 e => k n cur t h1 h2 (h n cur t h1 h2 e)
theorem Kp.of {w w' : World} (h : Below w.heap.size w w') : Kp w w' := fun k _ _ _ _ e => (h.block k (Array.getElem?_eq_some_iff.1 e).1).trans e
theorem Kp.grown {w w' : World} {r : Option Nat} (h : w.grownBy w' r) (hr : ∀ k, r = some k → ∃ cur t, w.heap[k]? = some (.cells cur t (0, 0)) ∧ (t = 69 ∨ t = 5)) : Kp w w' := fun k cur t h1 h2 e => by
  rw [← e]
  refine h.block k (Array.getElem?_eq_some_iff.1 e).1 fun he => ?_
  obtain ⟨cur', t', hc, ht⟩ := hr k he.symm
  rw [hc] at e
  simp at e
  rcases ht with ht | ht
  · exact h1 (e.2 ▸ ht)
  · exact h2 (e.2 ▸ ht)
theorem ownB_block {w : World} {base : Nat} {v : Value} {l : M.By} (h : OwnB w base v l) : ∀ k, v.ownBlock = some k → ∃ cur t, w.heap[k]? = some (.cells cur t (0, 0)) ∧ (t = 69 ∨ t = 5) := by
  intro k e
  rcases h.2 with ⟨rfl, _⟩ | ⟨g, cap, cur, rfl, _, hg, _⟩
  · simp [Value.ownBlock] at e
  · obtain rfl : g = k := by simpa [Value.ownBlock] using e
    exact ⟨cur, _, hg, Or.inr rfl⟩
theorem infoU8 : (Tryz.prog.info? 5).map (fun i => (i.zero, i.size, i.bytes)) = some (some (.int .u8 0), 1, 1) := by kernel_rfl
theorem PenAt.put {w w1 : World} {base b : Nat} {l m : M.By} {ov : Bool} {v v' : Value} (h1 : w.heap[b]? = some (.cells #[v, .bool ov] 69 (0, 0))) (h2 : base ≤ b) (h3 : OwnB w base v l) (hbw : base ≤ w.heap.size) (hg : w.grownBy w1 v.ownBlock) (h4 : OwnB w1 base v' (l ++ m)) :
    PenAt (w1.setCell ⟨b, 0, none⟩ v') base b (l ++ m) ov ∧ w1.heap[b]? = some (.cells #[v, .bool ov] 69 (0, 0)) ∧ Below base w (w1.setCell ⟨b, 0, none⟩ v') ∧ Kp w (w1.setCell ⟨b, 0, none⟩ v') := by
  have hlt := (Array.getElem?_eq_some_iff.1 h1).1
  have hne : v.ownBlock ≠ some b := fun e => by
    rcases h3.2 with ⟨rfl, _⟩ | ⟨g, cap, cur, rfl, _, hgb, _⟩
    · simp [Value.ownBlock] at e
    · obtain rfl : g = b := by simpa [Value.ownBlock] using e
      rw [h1] at hgb
      simp at hgb
  have hb1 : w1.heap[b]? = some (.cells #[v, .bool ov] 69 (0, 0)) := (hg.block b hlt (fun e => hne e.symm)).trans h1
  have g2 := grownBy_set w1 ⟨b, 0, none⟩ v'
  refine ⟨⟨v', ?_, h2, ownsRow_elsewhere h4 g2 fun r e cur he => ?_⟩, hb1, ((Below.refl _ _).grown hg hbw (fun k e => (World.ownsRow.lt h3 k e).1)).setCell (p := ⟨b, 0, none⟩) h2 _, (Kp.grown hg (ownB_block h3)).trans (Kp.grown g2 fun k e => ?_)⟩
  · rw [heap_setCell_same _ _ _ _ _ _ hb1]; rfl
  · cases e
    rw [show w1.heap[b]? = _ from hb1] at he
    simp at he
  · cases e
    exact ⟨_, _, hb1, Or.inl rfl⟩
theorem PenAt.mark {w : World} {base b : Nat} {l : M.By} {ov : Bool} {v : Value} (h1 : w.heap[b]? = some (.cells #[v, .bool ov] 69 (0, 0))) (h2 : base ≤ b) (h3 : OwnB w base v l) :
    PenAt (w.setCell ⟨b, 1, none⟩ (.bool true)) base b l true ∧ Below base w (w.setCell ⟨b, 1, none⟩ (.bool true)) ∧ Kp w (w.setCell ⟨b, 1, none⟩ (.bool true)) := by
  have g2 := grownBy_set w ⟨b, 1, none⟩ (.bool true)
  refine ⟨⟨v, ?_, h2, ownsRow_elsewhere h3 g2 fun r e cur he => ?_⟩, (Below.refl _ _).setCell (p := ⟨b, 1, none⟩) h2 _, Kp.grown g2 fun k e => ?_⟩
  · rw [heap_setCell_same _ _ _ _ _ _ h1]; rfl
  · cases e
    rw [show w.heap[b]? = _ from h1] at he
    simp at he
  · cases e
    exact ⟨_, _, h1, Or.inl rfl⟩
theorem step_byte {w : World} {ops : Array Oper} {o : Oper} {a : Act} {K : Act → World → Prop} {Q : Exit → Act → World → Prop} {E : Prop} (hgd : o.guard = none) (s x : Operand)
    (ho : o.op = .call { callee := .builtin .append, args := #[s, x], argTypes := #[67, 67] })
    (base : Nat) (v : Value) (l : M.By) (hs : a.eval s = v) (hown : OwnB w base v l) (ad : Addr) (y : UInt8) (hx : a.eval x = .slice (some ad) 1 1) (hc : w.cell? (ad.add 0) = some (.int .u8 (y.toNat : Int)))
    (hbig : l.length + 1 ≤ 1000000) (hbase : base ≤ w.heap.size)
    (h : ∀ v' w', OwnB w' base v' (l ++ [y]) → w.grownBy w' v.ownBlock → K (a.put o.dst v') w') : if Region.wanted o (yielded ops a.tmps) = true then Oper.wp Tryz.prog o a w K Q else E := by
  obtain ⟨i0, hi, hz0, hz1, hz2⟩ := info_parts infoU8
  refine step_append_any hgd s x _ ho base 5 i0 (.int .u8 0) 1 1 (by kernel_rfl) hi hz0 hz1 hz2 rfl (by omega) v l.length (b8 l) hs hown (some ad) 1 1 (b8 [y]) hx rfl (fun ad' e j u hj => ?_) (fun e => by simp at e) (fun u hu => ?_) (by unfold maxLen; omega) (by omega) hbase (fun v' w' h1 h2 => h v' w' ?_ h2)
  · obtain rfl : ad = ad' := by simpa using e
    match j, hj with
    | 0, hj => simp [b8] at hj; rw [← hj]; exact hc
  · simp [b8] at hu; rw [hu]; rfl
  · unfold OwnB
    rw [b8_append, List.length_append]
    exact h1
set_option maxRecDepth 100000 in
set_option maxHeartbeats 8000000 in
theorem pput1_any (b base : Nat) (l : M.By) (ov : Bool) (a : Option Addr) (m cap : Nat) (ns : List Int) (w : World) (hP : PenAt w base b l ov) (hr : ∀ w', Below base w w' → Kp w w' → Ri w' a m ns) (hm : m ≤ 1000) (hll : ∀ k, (M.pnL false (l, ov) (ns.take k)).1.length ≤ 500000) :
    Calls Tryz.prog 57 #[.pointer (some ⟨b, 0, none⟩), .int .i64 256, .slice a m cap] w fun e w' => (∃ v, e = .returned v) ∧ PenAt w' base b (M.pnL false (l, ov) ns).1 (M.pnL false (l, ov) ns).2 ∧ Below base w w' ∧ Kp w w' := by
  obtain ⟨i1, hi1, hy0, hy1, hy2⟩ := info_parts infoU8
  have HP0 : Aside (PenAt w base b l ov) := hP
  have HRi : Hid (∀ w', Below base w w' → Kp w w' → Ri w' a m ns) := hr
  have HLl : Hid (∀ k, (M.pnL false (l, ov) (ns.take k)).1.length ≤ 500000) := hll
  have hnl : ns.length = m := (hr w (Below.refl _ _) (Kp.refl _)).1
  have HNl : Aside (ns.length = m) := hnl
  clear hP hr hnl hll
  go_enter Tryz.func57, Tryz.ntmps57
  go_wp2_with fail
  go_loopg [11] m (fun g i wr => ∃ k : Nat, k + g = m ∧ i = .int .i64 k ∧ Aside (PenAt wr base b (M.pnL false (l, ov) (ns.take k)).1 (M.pnL false (l, ov) (ns.take k)).2) ∧ Below base w wr ∧ Kp w wr)
  case atStart => exact ⟨0, by omega, rfl, HP0, Below.refl _ _, Kp.refl _⟩
  case round =>
    obtain ⟨k, hk, rfl, HPk, hbel, hkp⟩ := hrel
    by_cases hkm : k < m
    · have hki : (k : Int) < (m : Int) := by omega
      have hkn : k < ns.length := by rw [HNl.out]; exact hkm
      obtain ⟨ab, ao, rfl, hab, hc⟩ : ∃ ab ao, a = some ⟨ab, ao, none⟩ ∧ ab < wr.heap.size ∧ wr.cell? ⟨ab, ao + k, none⟩ = some (.int .i64 (ns.getD k 0)) := by
        rcases (HRi.out wr hbel hkp).cases with ⟨h0, _⟩ | ⟨ab, ao, e, _, _, hB, hc⟩
        · omega
        · exact ⟨ab, ao, e, hB, hc k hkm⟩
      obtain ⟨n, hn⟩ : ∃ n, n = ns.getD k 0 := ⟨_, rfl⟩
      rw [← hn] at hc
      have hst := M.pnL_take false (l, ov) ns k hkn
      rw [← hn] at hst
      obtain ⟨lk, hlk⟩ : ∃ lk, lk = (M.pnL false (l, ov) (ns.take k)).1 := ⟨_, rfl⟩
      obtain ⟨ok, hok⟩ : ∃ ok, ok = (M.pnL false (l, ov) (ns.take k)).2 := ⟨_, rfl⟩
      have hpk : M.pnL false (l, ov) (ns.take k) = (lk, ok) := by rw [hlk, hok]
      have hlk5 : lk.length ≤ 500000 := by rw [hlk]; exact HLl.out k
      rw [← hlk, ← hok] at HPk
      rw [hpk] at hst
      have HSt : Hid (M.pnL false (l, ov) (ns.take (k + 1)) = M.pnS false (lk, ok) n) := hst
      have HPkk : Hid (M.pnL false (l, ov) (ns.take k) = (lk, ok)) := hpk
      obtain ⟨v, blk, hbb, ob⟩ := HPk.out
      obtain ⟨va, vn, vc, rfl⟩ : ∃ va vn vc, v = .slice va vn vc := by
        rcases ob.2 with ⟨e, _⟩ | ⟨g, c, _, e, _⟩
        · exact ⟨_, _, _, e⟩
        · exact ⟨_, _, _, e⟩
      have c0 : wr.cell? ⟨b, 0, none⟩ = some (.slice va vn vc) := by rw [cell_of_row _ _ _ _ _ _ blk]; rfl
      have c1 : wr.cell? ⟨b, 1, none⟩ = some (.bool ok) := by rw [cell_of_row _ _ _ _ _ _ blk]; rfl
      have f1 : wr.frozen? ⟨b, 1, none⟩ = false := frozen_of_row _ _ _ _ _ blk
      clear hst hpk hlk hok hn
      by_cases hg : 0 ≤ n ∧ n < 256
      · have h1 : decide (n < 0) = false := by simp; omega
        have h2 : decide ((256 : Int) ≤ n) = false := by simp; omega
        cases ok with
        | true =>
          have HE : Hid (M.pnL false (l, ov) ns = (lk, true)) := by
            unfold Hid
            rw [M.pnL_stays false (l, ov) ns k (by rw [HPkk.out]), HPkk.out]
          clear blk ob
          go_wp2
          refine bodyPost_ret (results_none rfl _ _ _) rfl ?_
          exact ⟨⟨_, rfl⟩, by rw [HE.out]; exact HPk.out, hbel, hkp⟩
        | false =>
          have hB : M.pnB false n = true := by unfold M.pnB; simp; omega
          have HN : Hid (M.pnL false (l, ov) (ns.take (k + 1)) = (lk ++ M.pnE false n, false)) := by
            unfold Hid
            rw [HSt.out]
            unfold M.pnS
            rw [if_neg (by simp), if_pos hB]
          obtain ⟨nn, rfl⟩ : ∃ nn : Nat, n = (nn : Int) := ⟨n.toNat, by omega⟩
          have hnn : nn < 256 := by omega
          have HPk2 : Aside (PenAt wr base b lk false) := HPk
          clear blk ob hB hg HPk
          go_wp2_with fail
          go_loopg [8] 1 (fun g i wi => ∃ (pl : Int) (cur : M.By), i = .int .i64 pl ∧ ((pl = 1 ∧ g = 1 ∧ cur ++ [UInt8.ofNat nn] = lk ++ M.pnE false (nn : Int)) ∨ (pl = 0 ∧ g = 0 ∧ cur = lk ++ M.pnE false (nn : Int))) ∧ cur.length + g ≤ 500002 ∧ Aside (PenAt wi base b cur false) ∧ Below base wr wi ∧ Kp wr wi)
          case atStart => exact ⟨1, lk, rfl, Or.inl ⟨rfl, rfl, rfl⟩, by omega, HPk2, Below.refl _ _, Kp.refl _⟩
          case round =>
            obtain ⟨pl, cur, rfl, hor, hcu5, HPc, hbi2, hki2⟩ := hrel
            rcases hor with ⟨rfl, rfl, hcu⟩ | ⟨rfl, rfl, hcu⟩
            · obtain ⟨v2, blk2, hbb2, ob2⟩ := HPc.out
              obtain ⟨wa, wn, wc, rfl⟩ : ∃ wa wn wc, v2 = .slice wa wn wc := by
                rcases ob2.2 with ⟨e, _⟩ | ⟨g, c, _, e, _⟩
                · exact ⟨_, _, _, e⟩
                · exact ⟨_, _, _, e⟩
              have d0 : wr.cell? ⟨b, 0, none⟩ = some (.slice wa wn wc) := by rw [cell_of_row _ _ _ _ _ _ blk2]; rfl
              have hw8 : IntKind.u8.wrap ((nn : Nat) : Int) = ((UInt8.ofNat (nn)).toNat : Int) := by rw [UInt8.toNat_ofNat', IntKind.wrap_u8]; omega
              
              have hz64 : IntKind.i64.wrap ((nn : Nat) : Int) = ((nn : Nat) : Int) := by rw [IntKind.wrap_i64]; omega
              obtain ⟨y, hy⟩ : ∃ y : UInt8, y = UInt8.ofNat (nn) := ⟨_, rfl⟩
              rw [← hy] at hw8
              have hbi : b < wr.heap.size := (Array.getElem?_eq_some_iff.1 blk2).1
              have hbasei : base ≤ wr.heap.size := Nat.le_trans hbb2 (Nat.le_of_lt hbi)
              have HSV : Hid (∀ V, Below wr.heap.size wr V → V.cell? ⟨b, 0, none⟩ = some (.slice wa wn wc)) := fun V hV => (hV.cell (p := ⟨b, 0, none⟩) hbi).trans d0
              have HBd : Hid (Below wr.heap.size wr wr.drew) := (Below.refl _ _).drew
              have pb9 : Hid (Below wr.heap.size wr (wr.alloc (.cells #[.int .u8 (y.toNat : Int)] 5)).drew) := ((Below.refl _ _).alloc (Nat.le_refl _) _).drew
              have HBl : Hid ((wr.alloc (.cells #[.int .u8 (y.toNat : Int)] 5)).drew.heap[b]? = some (.cells #[.slice wa wn wc, .bool false] 69 (0, 0))) := (pb9.out.block b hbi).trans blk2
              have HOb : Hid (OwnB (wr.alloc (.cells #[.int .u8 (y.toNat : Int)] 5)).drew base (.slice wa wn wc) cur) := ownsRow_later ob2 pb9.out
              have HY : Hid (y = UInt8.ofNat (nn)) := hy
              clear blk2 ob2 hy
              go_wp2_with fail
              refine wp_region_till 13 (fun V => V.cell? ⟨b, 0, none⟩ = some (.slice wa wn wc)) (by kernel_rfl) (HSV.out _ HBd.out) (fun hHeld => ?_)
              refine till_go 0 (v := .pointer (some ⟨b, 0, none⟩)) rfl (by decide) (by kernel_rfl) (by kernel_rfl) (by kernel_rfl) (fun _ _ _ h => h) (Or.inl ⟨by rfl, fun V _ => (by go_simp)⟩) hHeld ?_
              try simp only [Act.put]
              refine till_go 1 (v := .pointer (some ⟨b, 0, none⟩)) rfl (by decide) (by kernel_rfl) (by kernel_rfl) (by kernel_rfl) (fun _ _ _ h => h) (Or.inl ⟨by rfl, fun V _ => (by go_simp)⟩) hHeld ?_
              try simp only [Act.put]
              refine till_go 2 (v := .pointer (some ⟨b, 0, none⟩)) rfl (by decide) (by kernel_rfl) (by kernel_rfl) (by kernel_rfl) (fun _ _ _ h => h) (Or.inl ⟨by rfl, fun V _ => (by go_simp)⟩) hHeld ?_
              try simp only [Act.put]
              refine till_go 3 (v := .pointer (some ⟨b, 0, none⟩)) rfl (by decide) (by kernel_rfl) (by kernel_rfl) (by kernel_rfl) (fun _ _ _ h => h) (Or.inl ⟨by rfl, fun V _ => (by go_simp)⟩) hHeld ?_
              try simp only [Act.put]
              refine till_take 4 (v := .slice wa wn wc) rfl (by decide) (by kernel_rfl) (by kernel_rfl) (by kernel_rfl) (by kernel_rfl) (by kernel_rfl) (fun _ _ _ h => h) (Or.inl ⟨by rfl, fun V hV => (by have v0 := hV; go_simp)⟩) hHeld ?_
              try simp only [Act.put]
              refine till_go 5 (v := .int .i64 (nn : Int)) rfl (by decide) (by kernel_rfl) (by kernel_rfl) (by kernel_rfl) (fun _ _ _ h => h) (Or.inl ⟨by rfl, fun V _ => (by go_simp)⟩) hHeld ?_
              try simp only [Act.put]
              refine till_go 6 (v := .int .i64 1) rfl (by decide) (by kernel_rfl) (by kernel_rfl) (by kernel_rfl) (fun _ _ _ h => h) (Or.inl ⟨by rfl, fun V _ => (by go_simp)⟩) hHeld ?_
              try simp only [Act.put]
              refine till_go 7 (v := .int .i64 ((nn : Nat) : Int)) rfl (by decide) (by kernel_rfl) (by kernel_rfl) (by kernel_rfl) (fun _ _ _ h => h) (Or.inl ⟨by rfl, fun V _ => (by go_simp)⟩) hHeld ?_
              try simp only [Act.put]
              refine till_go 8 (v := .int .u8 (y.toNat : Int)) rfl (by decide) (by kernel_rfl) (by kernel_rfl) (by kernel_rfl) (fun _ _ _ h => h) (Or.inl ⟨by rfl, fun V _ => (by go_simp)⟩) hHeld ?_
              try simp only [Act.put]
              refine till_step 9 rfl (by decide) (by kernel_rfl) (fun K hK => ?_)
              go_simp
              refine hK.out _ _ (HSV.out _ pb9.out) (fun hHeld => ?_)
              clear hK K
              refine till_step 10 rfl (by decide) (by kernel_rfl) (fun K hK => ?_)
              refine step_byte rfl _ _ rfl base _ cur rfl HOb.out ⟨wr.heap.size, 0, none⟩ y rfl (by simp [go_sem]) (by omega) (by simp; omega) ?_
              intro v8 w8 o8 g8
              obtain ⟨qa, qn, qc, rfl⟩ : ∃ qa qn qc, v8 = .slice qa qn qc := by
                rcases o8.2 with ⟨e, _⟩ | ⟨g, c, _, e, _⟩
                · exact ⟨_, _, _, e⟩
                · exact ⟨_, _, _, e⟩
              obtain ⟨P1, P2, P3, P4⟩ := PenAt.put (m := [y]) HBl.out hbb2 HOb.out (by simp; omega) g8 o8
              have k8 : w8.cell? ⟨b, 0, none⟩ = some (.slice wa wn wc) := by rw [cell_of_row _ _ _ _ _ _ P2]; rfl
              have f8 : w8.frozen? ⟨b, 0, none⟩ = false := frozen_of_row _ _ _ _ _ P2
              have HP1 : Hid (PenAt (w8.setCell ⟨b, 0, none⟩ (.slice qa qn qc)) base b (cur ++ [y]) false) := P1
              have HP3 : Hid (Below base wr (w8.setCell ⟨b, 0, none⟩ (.slice qa qn qc))) := (pb9.out.mono hbasei).trans P3
              have HP4 : Hid (Kp wr (w8.setCell ⟨b, 0, none⟩ (.slice qa qn qc))) := (Kp.of pb9.out).trans P4
              clear P1 P2 P3 P4 o8 g8
              refine hK.out _ _ k8 (fun hHeld => ?_)
              clear hK K
              refine till_go 11 (v := .pointer (some ⟨b, 0, none⟩)) rfl (by decide) (by kernel_rfl) (by kernel_rfl) (by kernel_rfl) (fun _ _ _ h => h) (Or.inl ⟨by rfl, fun V _ => (by go_simp)⟩) hHeld ?_
              try simp only [Act.put]
              refine till_go 12 (v := .pointer (some ⟨b, 0, none⟩)) rfl (by decide) (by kernel_rfl) (by kernel_rfl) (by kernel_rfl) (fun _ _ _ h => h) (Or.inl ⟨by rfl, fun V _ => (by go_simp)⟩) hHeld ?_
              try simp only [Act.put]
              refine till_last rfl (by kernel_rfl) (by kernel_rfl) (fun K hK => ?_) _
              go_simp
              refine hK.out _ _ ?_
              clear hK K
              go_wp2
              go_roundg 0
              case measure => omega
              case rel => exact ⟨0, cur ++ [y], by go_num, Or.inr ⟨rfl, rfl, by rw [HY.out]; exact hcu⟩, by simp; omega, HP1.out, hbi2.trans HP3.out, hki2.trans HP4.out⟩
            · subst hcu
              go_wp2
              go_roundg (gk - 1)
              case measure => omega
              case rel => exact ⟨k + 1, by omega, by go_num, by rw [HN.out]; exact HPc, hbel.trans hbi2, hkp.trans hki2⟩
            
      · have HE : Hid (M.pnL false (l, ov) ns = (lk, true)) := by
          have e : M.pnS false (lk, ok) n = (lk, true) := by
            unfold M.pnS
            cases ok with
            | true => rfl
            | false =>
              have hB : M.pnB false n = false := by unfold M.pnB; simp; omega
              rw [if_neg (by simp), if_neg (by rw [hB]; simp)]
          unfold Hid
          rw [M.pnL_stays false (l, ov) ns (k + 1) (by rw [HSt.out, e]), HSt.out, e]
        obtain ⟨P1, P2, P3⟩ := PenAt.mark blk hbb ob
        obtain ⟨X, hX⟩ : ∃ X, X = wr.setCell ⟨b, 1, none⟩ (.bool true) := ⟨_, rfl⟩
        rw [← hX] at P1 P2 P3
        have HX : Hid (X = wr.setCell ⟨b, 1, none⟩ (.bool true)) := hX
        have HPX : Hid (PenAt X base b lk true) := P1
        have x1 : X.cell? ⟨b, 1, none⟩ = some (.bool true) := by obtain ⟨u, hu, _⟩ := P1; rw [cell_of_row _ _ _ _ _ _ hu]; rfl
        rw [hX] at x1
        have bX := hbel.trans P2
        have kX := hkp.trans P3
        clear blk ob P1 P2 P3 hX
        by_cases hneg : n < 0
        · have h1 : decide (n < 0) = true := by simp [hneg]
          clear hneg hg
          go_wp2
          rw [← HX.out]
          refine bodyPost_ret (results_none rfl _ _ _) rfl ?_
          exact ⟨⟨_, rfl⟩, by rw [HE.out]; exact HPX.out, bX, kX⟩
        · have h1 : decide (n < 0) = false := by simp; omega
          have h2 : decide ((256 : Int) ≤ n) = true := by simp; omega
          clear hneg hg
          go_wp2
          rw [← HX.out]
          refine bodyPost_ret (results_none rfl _ _ _) rfl ?_
          exact ⟨⟨_, rfl⟩, by rw [HE.out]; exact HPX.out, bX, kX⟩
    · obtain rfl : k = m := by omega
      have hkk2 : decide ((k : Int) < (k : Int)) = false := by simp
      have e1 : ns.take k = ns := List.take_of_length_le (by rw [HNl.out]; exact Nat.le_refl _)
      have HPe : Hid (PenAt wr base b (M.pnL false (l, ov) ns).1 (M.pnL false (l, ov) ns).2) := by have := HPk.out; rw [e1] at this; exact this
      clear e1
      go_wp2
      go_end0
      exact ⟨⟨_, rfl⟩, HPe.out, hbel, hkp⟩
set_option maxRecDepth 100000 in
set_option maxHeartbeats 8000000 in
theorem pput2_any (b base : Nat) (l : M.By) (ov : Bool) (a : Option Addr) (m cap : Nat) (ns : List Int) (w : World) (hP : PenAt w base b l ov) (hr : ∀ w', Below base w w' → Kp w w' → Ri w' a m ns) (hm : m ≤ 1000) (hll : ∀ k, (M.pnL true (l, ov) (ns.take k)).1.length ≤ 500000) :
    Calls Tryz.prog 57 #[.pointer (some ⟨b, 0, none⟩), .int .i64 65536, .slice a m cap] w fun e w' => (∃ v, e = .returned v) ∧ PenAt w' base b (M.pnL true (l, ov) ns).1 (M.pnL true (l, ov) ns).2 ∧ Below base w w' ∧ Kp w w' := by
  obtain ⟨i1, hi1, hy0, hy1, hy2⟩ := info_parts infoU8
  have HP0 : Aside (PenAt w base b l ov) := hP
  have HRi : Hid (∀ w', Below base w w' → Kp w w' → Ri w' a m ns) := hr
  have HLl : Hid (∀ k, (M.pnL true (l, ov) (ns.take k)).1.length ≤ 500000) := hll
  have hnl : ns.length = m := (hr w (Below.refl _ _) (Kp.refl _)).1
  have HNl : Aside (ns.length = m) := hnl
  clear hP hr hnl hll
  go_enter Tryz.func57, Tryz.ntmps57
  go_wp2_with fail
  go_loopg [11] m (fun g i wr => ∃ k : Nat, k + g = m ∧ i = .int .i64 k ∧ Aside (PenAt wr base b (M.pnL true (l, ov) (ns.take k)).1 (M.pnL true (l, ov) (ns.take k)).2) ∧ Below base w wr ∧ Kp w wr)
  case atStart => exact ⟨0, by omega, rfl, HP0, Below.refl _ _, Kp.refl _⟩
  case round =>
    obtain ⟨k, hk, rfl, HPk, hbel, hkp⟩ := hrel
    by_cases hkm : k < m
    · have hki : (k : Int) < (m : Int) := by omega
      have hkn : k < ns.length := by rw [HNl.out]; exact hkm
      obtain ⟨ab, ao, rfl, hab, hc⟩ : ∃ ab ao, a = some ⟨ab, ao, none⟩ ∧ ab < wr.heap.size ∧ wr.cell? ⟨ab, ao + k, none⟩ = some (.int .i64 (ns.getD k 0)) := by
        rcases (HRi.out wr hbel hkp).cases with ⟨h0, _⟩ | ⟨ab, ao, e, _, _, hB, hc⟩
        · omega
        · exact ⟨ab, ao, e, hB, hc k hkm⟩
      obtain ⟨n, hn⟩ : ∃ n, n = ns.getD k 0 := ⟨_, rfl⟩
      rw [← hn] at hc
      have hst := M.pnL_take true (l, ov) ns k hkn
      rw [← hn] at hst
      obtain ⟨lk, hlk⟩ : ∃ lk, lk = (M.pnL true (l, ov) (ns.take k)).1 := ⟨_, rfl⟩
      obtain ⟨ok, hok⟩ : ∃ ok, ok = (M.pnL true (l, ov) (ns.take k)).2 := ⟨_, rfl⟩
      have hpk : M.pnL true (l, ov) (ns.take k) = (lk, ok) := by rw [hlk, hok]
      have hlk5 : lk.length ≤ 500000 := by rw [hlk]; exact HLl.out k
      rw [← hlk, ← hok] at HPk
      rw [hpk] at hst
      have HSt : Hid (M.pnL true (l, ov) (ns.take (k + 1)) = M.pnS true (lk, ok) n) := hst
      have HPkk : Hid (M.pnL true (l, ov) (ns.take k) = (lk, ok)) := hpk
      obtain ⟨v, blk, hbb, ob⟩ := HPk.out
      obtain ⟨va, vn, vc, rfl⟩ : ∃ va vn vc, v = .slice va vn vc := by
        rcases ob.2 with ⟨e, _⟩ | ⟨g, c, _, e, _⟩
        · exact ⟨_, _, _, e⟩
        · exact ⟨_, _, _, e⟩
      have c0 : wr.cell? ⟨b, 0, none⟩ = some (.slice va vn vc) := by rw [cell_of_row _ _ _ _ _ _ blk]; rfl
      have c1 : wr.cell? ⟨b, 1, none⟩ = some (.bool ok) := by rw [cell_of_row _ _ _ _ _ _ blk]; rfl
      have f1 : wr.frozen? ⟨b, 1, none⟩ = false := frozen_of_row _ _ _ _ _ blk
      clear hst hpk hlk hok hn
      by_cases hg : 0 ≤ n ∧ n < 65536
      · have h1 : decide (n < 0) = false := by simp; omega
        have h2 : decide ((65536 : Int) ≤ n) = false := by simp; omega
        cases ok with
        | true =>
          have HE : Hid (M.pnL true (l, ov) ns = (lk, true)) := by
            unfold Hid
            rw [M.pnL_stays true (l, ov) ns k (by rw [HPkk.out]), HPkk.out]
          clear blk ob
          go_wp2
          refine bodyPost_ret (results_none rfl _ _ _) rfl ?_
          exact ⟨⟨_, rfl⟩, by rw [HE.out]; exact HPk.out, hbel, hkp⟩
        | false =>
          have hB : M.pnB true n = true := by unfold M.pnB; simp; omega
          have HN : Hid (M.pnL true (l, ov) (ns.take (k + 1)) = (lk ++ M.pnE true n, false)) := by
            unfold Hid
            rw [HSt.out]
            unfold M.pnS
            rw [if_neg (by simp), if_pos hB]
          obtain ⟨nn, rfl⟩ : ∃ nn : Nat, n = (nn : Int) := ⟨n.toNat, by omega⟩
          have hnn : nn < 65536 := by omega
          have HPk2 : Aside (PenAt wr base b lk false) := HPk
          clear blk ob hB hg HPk
          go_wp2_with fail
          go_loopg [8] 2 (fun g i wi => ∃ (pl : Int) (cur : M.By), i = .int .i64 pl ∧ ((pl = 256 ∧ g = 2 ∧ cur = lk) ∨ (pl = 1 ∧ g = 1 ∧ cur ++ [UInt8.ofNat nn] = lk ++ M.pnE true (nn : Int)) ∨ (pl = 0 ∧ g = 0 ∧ cur = lk ++ M.pnE true (nn : Int))) ∧ cur.length + g ≤ 500002 ∧ Aside (PenAt wi base b cur false) ∧ Below base wr wi ∧ Kp wr wi)
          case atStart => exact ⟨256, lk, rfl, Or.inl ⟨rfl, rfl, rfl⟩, by omega, HPk2, Below.refl _ _, Kp.refl _⟩
          case round =>
            obtain ⟨pl, cur, rfl, hor, hcu5, HPc, hbi2, hki2⟩ := hrel
            rcases hor with ⟨rfl, rfl, hcu⟩ | ⟨rfl, rfl, hcu⟩ | ⟨rfl, rfl, hcu⟩
            · obtain ⟨z, hz⟩ : ∃ z : Nat, z = nn / 256 := ⟨_, rfl⟩
              have hzl : z < 256 := by omega
              have HZ : Hid (z = nn / 256) := hz
              obtain ⟨v2, blk2, hbb2, ob2⟩ := HPc.out
              obtain ⟨wa, wn, wc, rfl⟩ : ∃ wa wn wc, v2 = .slice wa wn wc := by
                rcases ob2.2 with ⟨e, _⟩ | ⟨g, c, _, e, _⟩
                · exact ⟨_, _, _, e⟩
                · exact ⟨_, _, _, e⟩
              have d0 : wr.cell? ⟨b, 0, none⟩ = some (.slice wa wn wc) := by rw [cell_of_row _ _ _ _ _ _ blk2]; rfl
              have hw8 : IntKind.u8.wrap ((z : Nat) : Int) = ((UInt8.ofNat (z)).toNat : Int) := by rw [UInt8.toNat_ofNat', IntKind.wrap_u8]; omega
              have hq : (nn : Int) / 256 = ((z : Nat) : Int) := by rw [hz]; omega
              have hz64 : IntKind.i64.wrap ((z : Nat) : Int) = ((z : Nat) : Int) := by rw [IntKind.wrap_i64]; omega
              obtain ⟨y, hy⟩ : ∃ y : UInt8, y = UInt8.ofNat (z) := ⟨_, rfl⟩
              rw [← hy] at hw8
              have hbi : b < wr.heap.size := (Array.getElem?_eq_some_iff.1 blk2).1
              have hbasei : base ≤ wr.heap.size := Nat.le_trans hbb2 (Nat.le_of_lt hbi)
              have HSV : Hid (∀ V, Below wr.heap.size wr V → V.cell? ⟨b, 0, none⟩ = some (.slice wa wn wc)) := fun V hV => (hV.cell (p := ⟨b, 0, none⟩) hbi).trans d0
              have HBd : Hid (Below wr.heap.size wr wr.drew) := (Below.refl _ _).drew
              have pb9 : Hid (Below wr.heap.size wr (wr.alloc (.cells #[.int .u8 (y.toNat : Int)] 5)).drew) := ((Below.refl _ _).alloc (Nat.le_refl _) _).drew
              have HBl : Hid ((wr.alloc (.cells #[.int .u8 (y.toNat : Int)] 5)).drew.heap[b]? = some (.cells #[.slice wa wn wc, .bool false] 69 (0, 0))) := (pb9.out.block b hbi).trans blk2
              have HOb : Hid (OwnB (wr.alloc (.cells #[.int .u8 (y.toNat : Int)] 5)).drew base (.slice wa wn wc) cur) := ownsRow_later ob2 pb9.out
              have HY : Hid (y = UInt8.ofNat (z)) := hy
              clear blk2 ob2 hy hz
              go_wp2_with fail
              refine wp_region_till 13 (fun V => V.cell? ⟨b, 0, none⟩ = some (.slice wa wn wc)) (by kernel_rfl) (HSV.out _ HBd.out) (fun hHeld => ?_)
              refine till_go 0 (v := .pointer (some ⟨b, 0, none⟩)) rfl (by decide) (by kernel_rfl) (by kernel_rfl) (by kernel_rfl) (fun _ _ _ h => h) (Or.inl ⟨by rfl, fun V _ => (by go_simp)⟩) hHeld ?_
              try simp only [Act.put]
              refine till_go 1 (v := .pointer (some ⟨b, 0, none⟩)) rfl (by decide) (by kernel_rfl) (by kernel_rfl) (by kernel_rfl) (fun _ _ _ h => h) (Or.inl ⟨by rfl, fun V _ => (by go_simp)⟩) hHeld ?_
              try simp only [Act.put]
              refine till_go 2 (v := .pointer (some ⟨b, 0, none⟩)) rfl (by decide) (by kernel_rfl) (by kernel_rfl) (by kernel_rfl) (fun _ _ _ h => h) (Or.inl ⟨by rfl, fun V _ => (by go_simp)⟩) hHeld ?_
              try simp only [Act.put]
              refine till_go 3 (v := .pointer (some ⟨b, 0, none⟩)) rfl (by decide) (by kernel_rfl) (by kernel_rfl) (by kernel_rfl) (fun _ _ _ h => h) (Or.inl ⟨by rfl, fun V _ => (by go_simp)⟩) hHeld ?_
              try simp only [Act.put]
              refine till_take 4 (v := .slice wa wn wc) rfl (by decide) (by kernel_rfl) (by kernel_rfl) (by kernel_rfl) (by kernel_rfl) (by kernel_rfl) (fun _ _ _ h => h) (Or.inl ⟨by rfl, fun V hV => (by have v0 := hV; go_simp)⟩) hHeld ?_
              try simp only [Act.put]
              refine till_go 5 (v := .int .i64 (nn : Int)) rfl (by decide) (by kernel_rfl) (by kernel_rfl) (by kernel_rfl) (fun _ _ _ h => h) (Or.inl ⟨by rfl, fun V _ => (by go_simp)⟩) hHeld ?_
              try simp only [Act.put]
              refine till_go 6 (v := .int .i64 256) rfl (by decide) (by kernel_rfl) (by kernel_rfl) (by kernel_rfl) (fun _ _ _ h => h) (Or.inl ⟨by rfl, fun V _ => (by go_simp)⟩) hHeld ?_
              try simp only [Act.put]
              refine till_go 7 (v := .int .i64 ((z : Nat) : Int)) rfl (by decide) (by kernel_rfl) (by kernel_rfl) (by kernel_rfl) (fun _ _ _ h => h) (Or.inl ⟨by rfl, fun V _ => (by go_simp)⟩) hHeld ?_
              try simp only [Act.put]
              refine till_go 8 (v := .int .u8 (y.toNat : Int)) rfl (by decide) (by kernel_rfl) (by kernel_rfl) (by kernel_rfl) (fun _ _ _ h => h) (Or.inl ⟨by rfl, fun V _ => (by go_simp)⟩) hHeld ?_
              try simp only [Act.put]
              refine till_step 9 rfl (by decide) (by kernel_rfl) (fun K hK => ?_)
              go_simp
              refine hK.out _ _ (HSV.out _ pb9.out) (fun hHeld => ?_)
              clear hK K
              refine till_step 10 rfl (by decide) (by kernel_rfl) (fun K hK => ?_)
              refine step_byte rfl _ _ rfl base _ cur rfl HOb.out ⟨wr.heap.size, 0, none⟩ y rfl (by simp [go_sem]) (by omega) (by simp; omega) ?_
              intro v8 w8 o8 g8
              obtain ⟨qa, qn, qc, rfl⟩ : ∃ qa qn qc, v8 = .slice qa qn qc := by
                rcases o8.2 with ⟨e, _⟩ | ⟨g, c, _, e, _⟩
                · exact ⟨_, _, _, e⟩
                · exact ⟨_, _, _, e⟩
              obtain ⟨P1, P2, P3, P4⟩ := PenAt.put (m := [y]) HBl.out hbb2 HOb.out (by simp; omega) g8 o8
              have k8 : w8.cell? ⟨b, 0, none⟩ = some (.slice wa wn wc) := by rw [cell_of_row _ _ _ _ _ _ P2]; rfl
              have f8 : w8.frozen? ⟨b, 0, none⟩ = false := frozen_of_row _ _ _ _ _ P2
              have HP1 : Hid (PenAt (w8.setCell ⟨b, 0, none⟩ (.slice qa qn qc)) base b (cur ++ [y]) false) := P1
              have HP3 : Hid (Below base wr (w8.setCell ⟨b, 0, none⟩ (.slice qa qn qc))) := (pb9.out.mono hbasei).trans P3
              have HP4 : Hid (Kp wr (w8.setCell ⟨b, 0, none⟩ (.slice qa qn qc))) := (Kp.of pb9.out).trans P4
              clear P1 P2 P3 P4 o8 g8
              refine hK.out _ _ k8 (fun hHeld => ?_)
              clear hK K
              refine till_go 11 (v := .pointer (some ⟨b, 0, none⟩)) rfl (by decide) (by kernel_rfl) (by kernel_rfl) (by kernel_rfl) (fun _ _ _ h => h) (Or.inl ⟨by rfl, fun V _ => (by go_simp)⟩) hHeld ?_
              try simp only [Act.put]
              refine till_go 12 (v := .pointer (some ⟨b, 0, none⟩)) rfl (by decide) (by kernel_rfl) (by kernel_rfl) (by kernel_rfl) (fun _ _ _ h => h) (Or.inl ⟨by rfl, fun V _ => (by go_simp)⟩) hHeld ?_
              try simp only [Act.put]
              refine till_last rfl (by kernel_rfl) (by kernel_rfl) (fun K hK => ?_) _
              go_simp
              refine hK.out _ _ ?_
              clear hK K
              go_wp2
              go_roundg 1
              case measure => omega
              case rel => exact ⟨1, cur ++ [y], by go_num, Or.inr (Or.inl ⟨rfl, rfl, by rw [hcu, HY.out, HZ.out]; unfold M.pnE M.b2; simp [M.byte_mod]⟩), by simp; omega, HP1.out, hbi2.trans HP3.out, hki2.trans HP4.out⟩
            
            · obtain ⟨v2, blk2, hbb2, ob2⟩ := HPc.out
              obtain ⟨wa, wn, wc, rfl⟩ : ∃ wa wn wc, v2 = .slice wa wn wc := by
                rcases ob2.2 with ⟨e, _⟩ | ⟨g, c, _, e, _⟩
                · exact ⟨_, _, _, e⟩
                · exact ⟨_, _, _, e⟩
              have d0 : wr.cell? ⟨b, 0, none⟩ = some (.slice wa wn wc) := by rw [cell_of_row _ _ _ _ _ _ blk2]; rfl
              have hw8 : IntKind.u8.wrap ((nn : Nat) : Int) = ((UInt8.ofNat (nn)).toNat : Int) := by rw [UInt8.toNat_ofNat', IntKind.wrap_u8]; omega
              
              have hz64 : IntKind.i64.wrap ((nn : Nat) : Int) = ((nn : Nat) : Int) := by rw [IntKind.wrap_i64]; omega
              obtain ⟨y, hy⟩ : ∃ y : UInt8, y = UInt8.ofNat (nn) := ⟨_, rfl⟩
              rw [← hy] at hw8
              have hbi : b < wr.heap.size := (Array.getElem?_eq_some_iff.1 blk2).1
              have hbasei : base ≤ wr.heap.size := Nat.le_trans hbb2 (Nat.le_of_lt hbi)
              have HSV : Hid (∀ V, Below wr.heap.size wr V → V.cell? ⟨b, 0, none⟩ = some (.slice wa wn wc)) := fun V hV => (hV.cell (p := ⟨b, 0, none⟩) hbi).trans d0
              have HBd : Hid (Below wr.heap.size wr wr.drew) := (Below.refl _ _).drew
              have pb9 : Hid (Below wr.heap.size wr (wr.alloc (.cells #[.int .u8 (y.toNat : Int)] 5)).drew) := ((Below.refl _ _).alloc (Nat.le_refl _) _).drew
              have HBl : Hid ((wr.alloc (.cells #[.int .u8 (y.toNat : Int)] 5)).drew.heap[b]? = some (.cells #[.slice wa wn wc, .bool false] 69 (0, 0))) := (pb9.out.block b hbi).trans blk2
              have HOb : Hid (OwnB (wr.alloc (.cells #[.int .u8 (y.toNat : Int)] 5)).drew base (.slice wa wn wc) cur) := ownsRow_later ob2 pb9.out
              have HY : Hid (y = UInt8.ofNat (nn)) := hy
              clear blk2 ob2 hy
              go_wp2_with fail
              refine wp_region_till 13 (fun V => V.cell? ⟨b, 0, none⟩ = some (.slice wa wn wc)) (by kernel_rfl) (HSV.out _ HBd.out) (fun hHeld => ?_)
              refine till_go 0 (v := .pointer (some ⟨b, 0, none⟩)) rfl (by decide) (by kernel_rfl) (by kernel_rfl) (by kernel_rfl) (fun _ _ _ h => h) (Or.inl ⟨by rfl, fun V _ => (by go_simp)⟩) hHeld ?_
              try simp only [Act.put]
              refine till_go 1 (v := .pointer (some ⟨b, 0, none⟩)) rfl (by decide) (by kernel_rfl) (by kernel_rfl) (by kernel_rfl) (fun _ _ _ h => h) (Or.inl ⟨by rfl, fun V _ => (by go_simp)⟩) hHeld ?_
              try simp only [Act.put]
              refine till_go 2 (v := .pointer (some ⟨b, 0, none⟩)) rfl (by decide) (by kernel_rfl) (by kernel_rfl) (by kernel_rfl) (fun _ _ _ h => h) (Or.inl ⟨by rfl, fun V _ => (by go_simp)⟩) hHeld ?_
              try simp only [Act.put]
              refine till_go 3 (v := .pointer (some ⟨b, 0, none⟩)) rfl (by decide) (by kernel_rfl) (by kernel_rfl) (by kernel_rfl) (fun _ _ _ h => h) (Or.inl ⟨by rfl, fun V _ => (by go_simp)⟩) hHeld ?_
              try simp only [Act.put]
              refine till_take 4 (v := .slice wa wn wc) rfl (by decide) (by kernel_rfl) (by kernel_rfl) (by kernel_rfl) (by kernel_rfl) (by kernel_rfl) (fun _ _ _ h => h) (Or.inl ⟨by rfl, fun V hV => (by have v0 := hV; go_simp)⟩) hHeld ?_
              try simp only [Act.put]
              refine till_go 5 (v := .int .i64 (nn : Int)) rfl (by decide) (by kernel_rfl) (by kernel_rfl) (by kernel_rfl) (fun _ _ _ h => h) (Or.inl ⟨by rfl, fun V _ => (by go_simp)⟩) hHeld ?_
              try simp only [Act.put]
              refine till_go 6 (v := .int .i64 1) rfl (by decide) (by kernel_rfl) (by kernel_rfl) (by kernel_rfl) (fun _ _ _ h => h) (Or.inl ⟨by rfl, fun V _ => (by go_simp)⟩) hHeld ?_
              try simp only [Act.put]
              refine till_go 7 (v := .int .i64 ((nn : Nat) : Int)) rfl (by decide) (by kernel_rfl) (by kernel_rfl) (by kernel_rfl) (fun _ _ _ h => h) (Or.inl ⟨by rfl, fun V _ => (by go_simp)⟩) hHeld ?_
              try simp only [Act.put]
              refine till_go 8 (v := .int .u8 (y.toNat : Int)) rfl (by decide) (by kernel_rfl) (by kernel_rfl) (by kernel_rfl) (fun _ _ _ h => h) (Or.inl ⟨by rfl, fun V _ => (by go_simp)⟩) hHeld ?_
              try simp only [Act.put]
              refine till_step 9 rfl (by decide) (by kernel_rfl) (fun K hK => ?_)
              go_simp
              refine hK.out _ _ (HSV.out _ pb9.out) (fun hHeld => ?_)
              clear hK K
              refine till_step 10 rfl (by decide) (by kernel_rfl) (fun K hK => ?_)
              refine step_byte rfl _ _ rfl base _ cur rfl HOb.out ⟨wr.heap.size, 0, none⟩ y rfl (by simp [go_sem]) (by omega) (by simp; omega) ?_
              intro v8 w8 o8 g8
              obtain ⟨qa, qn, qc, rfl⟩ : ∃ qa qn qc, v8 = .slice qa qn qc := by
                rcases o8.2 with ⟨e, _⟩ | ⟨g, c, _, e, _⟩
                · exact ⟨_, _, _, e⟩
                · exact ⟨_, _, _, e⟩
              obtain ⟨P1, P2, P3, P4⟩ := PenAt.put (m := [y]) HBl.out hbb2 HOb.out (by simp; omega) g8 o8
              have k8 : w8.cell? ⟨b, 0, none⟩ = some (.slice wa wn wc) := by rw [cell_of_row _ _ _ _ _ _ P2]; rfl
              have f8 : w8.frozen? ⟨b, 0, none⟩ = false := frozen_of_row _ _ _ _ _ P2
              have HP1 : Hid (PenAt (w8.setCell ⟨b, 0, none⟩ (.slice qa qn qc)) base b (cur ++ [y]) false) := P1
              have HP3 : Hid (Below base wr (w8.setCell ⟨b, 0, none⟩ (.slice qa qn qc))) := (pb9.out.mono hbasei).trans P3
              have HP4 : Hid (Kp wr (w8.setCell ⟨b, 0, none⟩ (.slice qa qn qc))) := (Kp.of pb9.out).trans P4
              clear P1 P2 P3 P4 o8 g8
              refine hK.out _ _ k8 (fun hHeld => ?_)
              clear hK K
              refine till_go 11 (v := .pointer (some ⟨b, 0, none⟩)) rfl (by decide) (by kernel_rfl) (by kernel_rfl) (by kernel_rfl) (fun _ _ _ h => h) (Or.inl ⟨by rfl, fun V _ => (by go_simp)⟩) hHeld ?_
              try simp only [Act.put]
              refine till_go 12 (v := .pointer (some ⟨b, 0, none⟩)) rfl (by decide) (by kernel_rfl) (by kernel_rfl) (by kernel_rfl) (fun _ _ _ h => h) (Or.inl ⟨by rfl, fun V _ => (by go_simp)⟩) hHeld ?_
              try simp only [Act.put]
              refine till_last rfl (by kernel_rfl) (by kernel_rfl) (fun K hK => ?_) _
              go_simp
              refine hK.out _ _ ?_
              clear hK K
              go_wp2
              go_roundg 0
              case measure => omega
              case rel => exact ⟨0, cur ++ [y], by go_num, Or.inr (Or.inr ⟨rfl, rfl, by rw [HY.out]; exact hcu⟩), by simp; omega, HP1.out, hbi2.trans HP3.out, hki2.trans HP4.out⟩
            · subst hcu
              go_wp2
              go_roundg (gk - 1)
              case measure => omega
              case rel => exact ⟨k + 1, by omega, by go_num, by rw [HN.out]; exact HPc, hbel.trans hbi2, hkp.trans hki2⟩
            
      · have HE : Hid (M.pnL true (l, ov) ns = (lk, true)) := by
          have e : M.pnS true (lk, ok) n = (lk, true) := by
            unfold M.pnS
            cases ok with
            | true => rfl
            | false =>
              have hB : M.pnB true n = false := by unfold M.pnB; simp; omega
              rw [if_neg (by simp), if_neg (by rw [hB]; simp)]
          unfold Hid
          rw [M.pnL_stays true (l, ov) ns (k + 1) (by rw [HSt.out, e]), HSt.out, e]
        obtain ⟨P1, P2, P3⟩ := PenAt.mark blk hbb ob
        obtain ⟨X, hX⟩ : ∃ X, X = wr.setCell ⟨b, 1, none⟩ (.bool true) := ⟨_, rfl⟩
        rw [← hX] at P1 P2 P3
        have HX : Hid (X = wr.setCell ⟨b, 1, none⟩ (.bool true)) := hX
        have HPX : Hid (PenAt X base b lk true) := P1
        have x1 : X.cell? ⟨b, 1, none⟩ = some (.bool true) := by obtain ⟨u, hu, _⟩ := P1; rw [cell_of_row _ _ _ _ _ _ hu]; rfl
        rw [hX] at x1
        have bX := hbel.trans P2
        have kX := hkp.trans P3
        clear blk ob P1 P2 P3 hX
        by_cases hneg : n < 0
        · have h1 : decide (n < 0) = true := by simp [hneg]
          clear hneg hg
          go_wp2
          rw [← HX.out]
          refine bodyPost_ret (results_none rfl _ _ _) rfl ?_
          exact ⟨⟨_, rfl⟩, by rw [HE.out]; exact HPX.out, bX, kX⟩
        · have h1 : decide (n < 0) = false := by simp; omega
          have h2 : decide ((65536 : Int) ≤ n) = true := by simp; omega
          clear hneg hg
          go_wp2
          rw [← HX.out]
          refine bodyPost_ret (results_none rfl _ _ _) rfl ?_
          exact ⟨⟨_, rfl⟩, by rw [HE.out]; exact HPX.out, bX, kX⟩
    · obtain rfl : k = m := by omega
      have hkk2 : decide ((k : Int) < (k : Int)) = false := by simp
      have e1 : ns.take k = ns := List.take_of_length_le (by rw [HNl.out]; exact Nat.le_refl _)
      have HPe : Hid (PenAt wr base b (M.pnL true (l, ov) ns).1 (M.pnL true (l, ov) ns).2) := by have := HPk.out; rw [e1] at this; exact this
      clear e1
      go_wp2
      go_end0
      exact ⟨⟨_, rfl⟩, HPe.out, hbel, hkp⟩
end Go.Proofs.YtcgpgflnihjpiagGreat
namespace Go.Proofs.YtcgpgflnihjpiagGreat
open Go.RowKit Go.Lib
theorem ri_kept {w w' : World} {k : Nat} {ns : List Int} (h : w.heap[k]? = some (.cells (ns.map (Value.int .i64)).toArray 3 (0, 0))) (hk : Kp w w') : Ri w' (some ⟨k, 0, none⟩) ns.length ns := by
  have h1 := hk k _ _ (by decide) (by decide) h
  refine ⟨rfl, Or.inr ⟨k, 0, rfl, (Array.getElem?_eq_some_iff.1 h1).1, fun i hi => ?_⟩⟩
  rw [cell_of_row _ _ _ _ _ _ h1]
  simp [List.getD, hi]
set_option maxRecDepth 100000 in
set_option maxHeartbeats 4000000 in
theorem pbytes_any (b base : Nat) (l : M.By) (ov : Bool) (a : Option Addr) (m cap : Nat) (ns : List Int) (w : World) (hP : PenAt w base b l ov) (hr : ∀ w', Below base w w' → Kp w w' → Ri w' a m ns) (hm : m ≤ 1000) (hll : l.length ≤ 400000) :
    Calls Tryz.prog 24 #[.pointer (some ⟨b, 0, none⟩), .slice a m cap] w fun e w' => (∃ v, e = .returned v) ∧ PenAt w' base b (M.pnL false (l, ov) ns).1 (M.pnL false (l, ov) ns).2 ∧ Below base w w' ∧ Kp w w' := by
  have K := pput1_any b base l ov a m cap ns w hP hr hm (fun k => by
    have h1 := M.pnL_len false (l, ov) (ns.take k)
    have h2 : (ns.take k).length ≤ m := by rw [← (hr w (Below.refl _ _) (Kp.refl _)).1, List.length_take]; omega
    simp only at h1
    omega)
  have HK : Hid (Calls Tryz.prog 57 #[.pointer (some ⟨b, 0, none⟩), .int .i64 256, .slice a m cap] w fun e w' => (∃ v, e = .returned v) ∧ PenAt w' base b (M.pnL false (l, ov) ns).1 (M.pnL false (l, ov) ns).2 ∧ Below base w w' ∧ Kp w w') := K
  clear K hP hr
  go_enter Tryz.func24, Tryz.ntmps24
  go_wp2_with fail
  refine HK.out.mono ?_
  rintro e w1 ⟨⟨v, rfl⟩, h1, h2, h3⟩
  have H1 : Hid (PenAt _ _ _ _ _) := h1
  clear h1
  go_wp2
  go_end0
  exact ⟨⟨_, rfl⟩, H1.out, h2, h3⟩
set_option maxRecDepth 100000 in
set_option maxHeartbeats 4000000 in
theorem ppairs_any (b base : Nat) (l : M.By) (ov : Bool) (a : Option Addr) (m cap : Nat) (ns : List Int) (w : World) (hP : PenAt w base b l ov) (hr : ∀ w', Below base w w' → Kp w w' → Ri w' a m ns) (hm : m ≤ 1000) (hll : l.length ≤ 400000) :
    Calls Tryz.prog 26 #[.pointer (some ⟨b, 0, none⟩), .slice a m cap] w fun e w' => (∃ v, e = .returned v) ∧ PenAt w' base b (M.pnL true (l, ov) ns).1 (M.pnL true (l, ov) ns).2 ∧ Below base w w' ∧ Kp w w' := by
  have K := pput2_any b base l ov a m cap ns w hP hr hm (fun k => by
    have h1 := M.pnL_len true (l, ov) (ns.take k)
    have h2 : (ns.take k).length ≤ m := by rw [← (hr w (Below.refl _ _) (Kp.refl _)).1, List.length_take]; omega
    simp only at h1
    omega)
  have HK : Hid (Calls Tryz.prog 57 #[.pointer (some ⟨b, 0, none⟩), .int .i64 65536, .slice a m cap] w fun e w' => (∃ v, e = .returned v) ∧ PenAt w' base b (M.pnL true (l, ov) ns).1 (M.pnL true (l, ov) ns).2 ∧ Below base w w' ∧ Kp w w') := K
  clear K hP hr
  go_enter Tryz.func26, Tryz.ntmps26
  go_wp2_with fail
  refine HK.out.mono ?_
  rintro e w1 ⟨⟨v, rfl⟩, h1, h2, h3⟩
  have H1 : Hid (PenAt _ _ _ _ _) := h1
  clear h1
  go_wp2
  go_end0
  exact ⟨⟨_, rfl⟩, H1.out, h2, h3⟩
theorem strCells_b8 (s : M.By) : strCells (M.str s) = b8 s := by
  simp [strCells, M.str, b8]
theorem append_text {w : World} {ops : Array Oper} {rest : List Oper} {o : Oper} {a : Act} {Q : Exit → Act → World → Prop} (hgd : o.guard = none) (s x : Operand)
    (ho : o.op = .call { callee := .builtin .append, args := #[s, x], argTypes := #[67, 9] })
    (base : Nat) (v : Value) (l t : M.By) (hs : a.eval s = v) (hx : a.eval x = .string (M.str t)) (hown : OwnB w base v l)
    (hbig : l.length + t.length ≤ 1000000) (hbase : base ≤ w.heap.size)
    (h : ∀ v' w', OwnB w' base v' (l ++ t) → w.grownBy w' v.ownBlock → wpList Tryz.prog ops Q rest (a.put o.dst v') w') : wpList Tryz.prog ops Q (o :: rest) a w := by
  obtain ⟨i0, hi, hz0, hz1, hz2⟩ := info_parts infoU8
  obtain ⟨v', w', hrun, ho', hg, _⟩ := run_append_own_string (P := Tryz.prog) w base 67 9 o.type 5 i0 (by kernel_rfl) (by kernel_rfl) hi hz0 hz1 hz2 v l.length (b8 l) hown (M.str t) (by rw [M.str_size]; unfold maxLen; omega) (by rw [M.str_size]; omega) hbase
  have hk := h v' w' (by unfold OwnB; rw [b8_append, List.length_append]; rw [M.str_size, strCells_b8] at ho'; exact ho') hg
  refine wpList_plain hgd fun K hK => ?_
  unfold Oper.wp execOp
  simp only [ho, resolve, invoke, builtin, Sem.run_bind, Sem.run_pure, Result.andThen_ok, List.map_toArray, List.map_cons, List.map_nil, hs, hx, hrun]
  exact hK _ _ hk
set_option maxRecDepth 100000 in
set_option maxHeartbeats 8000000 in
theorem ptext_any (b base : Nat) (l : M.By) (ov : Bool) (s : M.By) (w : World) (hP : PenAt w base b l ov) (hs : s.length ≤ 9223372036854775807) (hll : l.length ≤ 300000) :
    Calls Tryz.prog 25 #[.pointer (some ⟨b, 0, none⟩), .string (M.str s)] w fun e w' => (∃ v, e = .returned v) ∧ PenAt w' base b (M.pnT (l, ov) s).1 (M.pnT (l, ov) s).2 ∧ Below base w w' ∧ Kp w w' := by
  have hbb : base ≤ b := by obtain ⟨_, _, h, _⟩ := hP; exact h
  have hbs : base ≤ w.heap.size := Nat.le_trans hbb (Nat.le_of_lt hP.lt)
  obtain ⟨W, hW⟩ : ∃ W, W = w.alloc (.cells #[.int .i64 (s.length : Int)] 3) := ⟨_, rfl⟩
  have hb0 : Below w.heap.size w W := by rw [hW]; exact (Below.refl _ _).alloc (Nat.le_refl _) _
  have hW0 : W.heap[w.heap.size]? = some (.cells #[.int .i64 (s.length : Int)] 3 (0, 0)) := by rw [hW]; exact heap_alloc_new _ _
  have K := pbytes_any b base l ov (some ⟨w.heap.size, 0, none⟩) 1 1 [(s.length : Int)] W (hP.later hb0) (fun w' _ hk => ri_kept hW0 hk) (by omega) (by omega)
  have HK : Hid (Calls Tryz.prog 24 #[.pointer (some ⟨b, 0, none⟩), .slice (some ⟨w.heap.size, 0, none⟩) 1 1] W fun e w' => (∃ v, e = .returned v) ∧ PenAt w' base b (M.pnS false (l, ov) (s.length : Int)).1 (M.pnS false (l, ov) (s.length : Int)).2 ∧ Below base W w' ∧ Kp W w') := K
  have HW : Hid (W = w.alloc (.cells #[.int .i64 (s.length : Int)] 3)) := hW
  have hbel : Below base w W := hb0.mono hbs
  have hkp : Kp w W := Kp.of hb0
  obtain ⟨str, hstr⟩ : ∃ str, str = M.str s := ⟨_, rfl⟩
  have hsz : str.size = s.length := by rw [hstr, M.str_size]
  have HS : Hid (str = M.str s) := hstr
  rw [← hstr]
  obtain ⟨sl, hsl⟩ : ∃ sl, sl = s.length := ⟨_, rfl⟩
  have HSl : Hid (sl = s.length) := hsl
  have hsl8 : sl ≤ 9223372036854775807 := by omega
  rw [← hsl] at hsz HK HW
  have hlen := M.pnS_len false (l, ov) (sl : Int)
  have HT : Hid (M.pnT (l, ov) s = if (M.pnS false (l, ov) (sl : Int)).2 = true then M.pnS false (l, ov) (sl : Int) else ((M.pnS false (l, ov) (sl : Int)).1 ++ s, false)) := by rw [hsl]; rfl
  have HB : Hid ((M.pnS false (l, ov) (sl : Int)).2 = false → sl < 256) := M.pnS_small
  generalize M.pnS false (l, ov) (sl : Int) = st at *
  obtain ⟨l1, o1⟩ := st
  simp only at hlen
  clear K hP hW hstr hsl hs hb0 hW0
  go_enter Tryz.func25, Tryz.ntmps25
  go_wp2_with fail
  rw [← HW.out]
  refine HK.out.mono ?_
  rintro e w1 ⟨⟨v, rfl⟩, h1, h2, h3⟩
  obtain ⟨v1, blk, _, ob⟩ := h1
  obtain ⟨va, vn, vc, rfl⟩ : ∃ va vn vc, v1 = .slice va vn vc := by
    rcases ob.2 with ⟨e, _⟩ | ⟨g, c, _, e, _⟩
    · exact ⟨_, _, _, e⟩
    · exact ⟨_, _, _, e⟩
  have c0 : w1.cell? ⟨b, 0, none⟩ = some (.slice va vn vc) := by rw [cell_of_row _ _ _ _ _ _ blk]; rfl
  have c1 : w1.cell? ⟨b, 1, none⟩ = some (.bool o1) := by rw [cell_of_row _ _ _ _ _ _ blk]; rfl
  have hbw1 := hbel.trans h2
  have hkw1 := hkp.trans h3
  have Hblk : Hid (w1.heap[b]? = some (.cells #[.slice va vn vc, .bool o1] 69 (0, 0))) := blk
  have Hob : Hid (OwnB w1 base (.slice va vn vc) l1) := ob
  have hbs1 : base ≤ w1.heap.size := Nat.le_trans hbs hbw1.size
  clear h2 h3 blk ob hbel hkp HK
  cases o1 with
  | true =>
    go_wp2
    go_end0
    refine ⟨⟨_, rfl⟩, ?_, hbw1, hkw1⟩
    rw [HT.out]
    exact ⟨_, Hblk.out, hbb, Hob.out⟩
  | false =>
    have hs2 : sl < 256 := HB.out rfl
    rw [HS.out]
    have hbig : l1.length + s.length ≤ 1000000 := by rw [← HSl.out]; omega
    go_wp2_with (at_builtin; refine append_text rfl _ _ rfl base _ l1 s rfl rfl Hob.out hbig hbs1 ?_)
    intro v8 w8 o8 g8
    obtain ⟨qa, qn, qc, rfl⟩ : ∃ qa qn qc, v8 = .slice qa qn qc := by
      rcases o8.2 with ⟨e, _⟩ | ⟨g, c, _, e, _⟩
      · exact ⟨_, _, _, e⟩
      · exact ⟨_, _, _, e⟩
    obtain ⟨P1, P2, P3, P4⟩ := PenAt.put (m := s) Hblk.out hbb Hob.out hbs1 g8 o8
    have k8 : w8.cell? ⟨b, 0, none⟩ = some (.slice va vn vc) := by rw [cell_of_row _ _ _ _ _ _ P2]; rfl
    have f8 : w8.frozen? ⟨b, 0, none⟩ = false := frozen_of_row _ _ _ _ _ P2
    have HP1 : Hid (PenAt (w8.setCell ⟨b, 0, none⟩ (.slice qa qn qc)) base b (l1 ++ s) false) := P1
    have HP3 : Hid (Below base w (w8.setCell ⟨b, 0, none⟩ (.slice qa qn qc))) := hbw1.trans P3
    have HP4 : Hid (Kp w (w8.setCell ⟨b, 0, none⟩ (.slice qa qn qc))) := hkw1.trans P4
    clear P1 P2 P3 P4 o8 g8 c0 c1
    go_wp2
    go_end0
    refine ⟨⟨_, rfl⟩, ?_, HP3.out, HP4.out⟩
    rw [HT.out]
    exact HP1.out
set_option maxRecDepth 100000 in
set_option maxHeartbeats 8000000 in
theorem written_any (b base : Nat) (l : M.By) (ov : Bool) (w : World) (hP : PenAt w base b l ov) :
    Calls Tryz.prog 27 #[.pointer (some ⟨b, 0, none⟩)] w fun e w' => e = .returned (.tuple #[.string (M.str (if ov = true then [] else l)), .int .i64 (if ov = true then 3 else 0)]) ∧ Below w.heap.size w w' := by
  obtain ⟨v1, blk, _, ob⟩ := hP
  obtain ⟨va, vn, vc, rfl⟩ : ∃ va vn vc, v1 = .slice va vn vc := by
    rcases ob.2 with ⟨e, _⟩ | ⟨g, c, _, e, _⟩
    · exact ⟨_, _, _, e⟩
    · exact ⟨_, _, _, e⟩
  have c0 : w.cell? ⟨b, 0, none⟩ = some (.slice va vn vc) := by rw [cell_of_row _ _ _ _ _ _ blk]; rfl
  have c1 : w.cell? ⟨b, 1, none⟩ = some (.bool ov) := by rw [cell_of_row _ _ _ _ _ _ blk]; rfl
  have hcv : (convert 67 9 (.slice va vn vc)).run Tryz.prog w = .ok (.string (M.str l)) w := by
    rcases ob.2 with ⟨e, e2⟩ | ⟨g, c, cur, e, hg, hgb, h4, h5, h6, h7⟩
    · simp at e
      obtain ⟨rfl, rfl, rfl⟩ := e
      obtain rfl : l = [] := List.eq_nil_of_length_eq_zero (by simpa using e2)
      exact run_convert_nil_bytes w _ _ 5 _ (by kernel_rfl) (by kernel_rfl) (by kernel_rfl)
    · simp at e
      obtain ⟨rfl, rfl, rfl⟩ := e
      refine run_convert_bytes_back w _ _ 5 _ _ l (by kernel_rfl) (by kernel_rfl) (by kernel_rfl) (fun j hj => ?_)
      have hj2 : j < cur.size := by have := congrArg List.length h7; simp [b8] at this; omega
      rw [Addr.add_lit, cell_of_row _ _ _ _ _ _ hgb]
      have h8 : (cur.toList.take (l.length * 1))[j]? = (b8 l)[j]? := by rw [h7]
      rw [List.getElem?_take_of_lt (by omega)] at h8
      simp [b8, hj] at h8
      simpa using h8
  clear blk ob
  go_enter Tryz.func27, Tryz.ntmps27
  cases ov with
  | true =>
    go_wp2
    go_ret2
    exact ⟨by simp [M.str], Below.refl _ _⟩
  | false =>
    go_wp2
    go_ret2
    exact ⟨by simp, Below.refl _ _⟩
end Go.Proofs.YtcgpgflnihjpiagGreat
namespace Go.Proofs.YtcgpgflnihjpiagGreat
open Go.RowKit
theorem PenAt.base {w : World} {base b : Nat} {l : M.By} {ov : Bool} (h : PenAt w base b l ov) : base ≤ w.heap.size := by
  have := h.lt
  obtain ⟨_, _, h2, _⟩ := h
  omega
theorem pbyte1_any (b base : Nat) (l : M.By) (ov : Bool) (n : Int) (w : World) (hP : PenAt w base b l ov) (hll : l.length ≤ 400000) :
    Calls Tryz.prog 24 #[.pointer (some ⟨b, 0, none⟩), .slice (some ⟨w.heap.size, 0, none⟩) 1 1] (w.alloc (.cells #[.int .i64 n] 3)) fun e w' => (∃ v, e = .returned v) ∧ PenAt w' base b (M.pnL false (l, ov) [n]).1 (M.pnL false (l, ov) [n]).2 ∧ Below base w w' ∧ Kp w w' := by
  have hb0 : Below w.heap.size w (w.alloc (.cells #[.int .i64 n] 3)) := (Below.refl _ _).alloc (Nat.le_refl _) _
  have hW0 : (w.alloc (.cells #[.int .i64 n] 3)).heap[w.heap.size]? = some (.cells (([n] : List Int).map (Value.int .i64)).toArray 3 (0, 0)) := heap_alloc_new _ _
  refine (pbytes_any b base l ov (some ⟨w.heap.size, 0, none⟩) 1 1 [n] _ (hP.later hb0) (fun w' _ hk => ri_kept hW0 hk) (by omega) hll).mono ?_
  rintro e w1 ⟨h1, h2, h3, h4⟩
  exact ⟨h1, h2, (hb0.mono hP.base).trans h3, (Kp.of hb0).trans h4⟩
theorem ppair2_any (b base : Nat) (l : M.By) (ov : Bool) (n k : Int) (w : World) (hP : PenAt w base b l ov) (hll : l.length ≤ 400000) :
    Calls Tryz.prog 26 #[.pointer (some ⟨b, 0, none⟩), .slice (some ⟨w.heap.size, 0, none⟩) 2 2] (w.alloc (.cells #[.int .i64 n, .int .i64 k] 3)) fun e w' => (∃ v, e = .returned v) ∧ PenAt w' base b (M.pnL true (l, ov) [n, k]).1 (M.pnL true (l, ov) [n, k]).2 ∧ Below base w w' ∧ Kp w w' := by
  have hb0 : Below w.heap.size w (w.alloc (.cells #[.int .i64 n, .int .i64 k] 3)) := (Below.refl _ _).alloc (Nat.le_refl _) _
  have hW0 : (w.alloc (.cells #[.int .i64 n, .int .i64 k] 3)).heap[w.heap.size]? = some (.cells (([n, k] : List Int).map (Value.int .i64)).toArray 3 (0, 0)) := heap_alloc_new _ _
  refine (ppairs_any b base l ov (some ⟨w.heap.size, 0, none⟩) 2 2 [n, k] _ (hP.later hb0) (fun w' _ hk => ri_kept hW0 hk) (by omega) hll).mono ?_
  rintro e w1 ⟨h1, h2, h3, h4⟩
  exact ⟨h1, h2, (hb0.mono hP.base).trans h3, (Kp.of hb0).trans h4⟩
end Go.Proofs.YtcgpgflnihjpiagGreat
namespace Go.Proofs.YtcgpgflnihjpiagGreat
def actV (x : M.Act) (a : Option Addr) (m cap : Nat) : Value := .agg #[.int .i64 x.kind, .string (M.str x.one), .string (M.str x.two), .slice a m cap]
end Go.Proofs.YtcgpgflnihjpiagGreat
namespace Go.Proofs.YtcgpgflnihjpiagGreat
open Go.RowKit
theorem within_yes (x lo hi : Int) (w : World) (h1 : lo ≤ x) (h2 : x ≤ hi) :
    Calls Tryz.prog 45 #[.int .i64 x, .int .i64 lo, .int .i64 hi] w fun e w' => e = .returned (.bool true) ∧ w' = w := by
  go_enter Tryz.func45, Tryz.ntmps45
  go_wp2
  go_ret
  exact ⟨rfl, rfl⟩
theorem within_no (x lo hi : Int) (w : World) (h : x < lo ∨ hi < x) :
    Calls Tryz.prog 45 #[.int .i64 x, .int .i64 lo, .int .i64 hi] w fun e w' => e = .returned (.bool false) ∧ w' = w := by
  by_cases h1 : lo ≤ x
  · have h2 : hi < x := by omega
    have hd : decide (x ≤ hi) = false := by simp; omega
    clear h
    go_enter Tryz.func45, Tryz.ntmps45
    go_wp2
    go_ret
    exact ⟨rfl, rfl⟩
  · have h2 : x < lo := by omega
    clear h h1
    go_enter Tryz.func45, Tryz.ntmps45
    go_wp2
    go_ret
    exact ⟨rfl, rfl⟩
theorem isKey_yes (x : Int) (w : World) (h1 : 0 ≤ x) (h2 : x ≤ 99) :
    Calls Tryz.prog 46 #[.int .i64 x] w fun e w' => e = .returned (.bool true) ∧ w' = w := by
  go_enter Tryz.func46, Tryz.ntmps46
  go_wp2_with (go_at_call 45; refine (within_yes _ _ _ _ h1 h2).mono ?_; rintro e w' ⟨rfl, rfl⟩)
  go_ret
  exact ⟨rfl, rfl⟩
theorem isKey_no (x : Int) (w : World) (h : x < 0 ∨ 99 < x) :
    Calls Tryz.prog 46 #[.int .i64 x] w fun e w' => e = .returned (.bool false) ∧ w' = w := by
  have H : Hid (x < 0 ∨ 99 < x) := h
  clear h
  go_enter Tryz.func46, Tryz.ntmps46
  go_wp2_with (go_at_call 45; refine (within_no _ _ _ _ H.out).mono ?_; rintro e w' ⟨rfl, rfl⟩)
  go_ret
  exact ⟨rfl, rfl⟩
theorem error_many (a : Option Addr) (n cap : Nat) (w : World) (h : 40 < n) (hm : n ≤ 9223372036854775807) :
    Calls Tryz.prog 16 #[.slice a n cap] w fun e w' => e = .returned (.int .i64 2) ∧ w' = w := by
  go_enter Tryz.func16, Tryz.ntmps16
  go_wp2
  go_ret
  exact ⟨rfl, rfl⟩
theorem error_none (a : Option Addr) (cap : Nat) (w : World) :
    Calls Tryz.prog 16 #[.slice a 0 cap] w fun e w' => e = .returned (.int .i64 0) ∧ w' = w := by
  go_enter Tryz.func16, Tryz.ntmps16
  go_wp2
  refine wp_loop_rounds 1 ?_
  rw [rounds_succ]
  go_wp2
  go_ret
  exact ⟨rfl, rfl⟩
set_option maxHeartbeats 2000000 in
theorem error_some (b off n cap : Nat) (l : List (Int × Int)) (w : World) (hn : n ≤ 40) (hl : l.length = n) (hB : b < w.heap.size)
    (hc : ∀ i, i < n → w.cell? ⟨b, off + i * 2, none⟩ = some (.int .i64 (l.getD i (0, 0)).1) ∧ w.cell? ⟨b, off + i * 2 + 1, none⟩ = some (.int .i64 (l.getD i (0, 0)).2)) :
    Calls Tryz.prog 16 #[.slice (some ⟨b, off, none⟩) n cap] w fun e w' => e = .returned (.int .i64 (M.chkFrom (-1) l)) ∧ Below w.heap.size w w' := by
  have HC : Aside (∀ i, i < n → w.cell? ⟨b, off + i * 2, none⟩ = some (.int .i64 (l.getD i (0, 0)).1) ∧ w.cell? ⟨b, off + i * 2 + 1, none⟩ = some (.int .i64 (l.getD i (0, 0)).2)) := hc
  have HL : Aside (l.length = n) := hl
  clear hc hl
  go_enter Tryz.func16, Tryz.ntmps16
  go_wp2
  go_loopg [3] n (fun g i wr => ∃ (k : Nat) (q : Int), k + g = n ∧ -1 ≤ q ∧ i = .int .i64 k ∧ Below w.heap.size w wr ∧ Aside (q = M.prev l k) ∧ Aside (M.chkFrom q (l.drop k) = M.chkFrom (-1) l))
  case atStart => exact ⟨0, -1, by omega, by omega, rfl, Below.refl _ _, rfl, by simp [Aside]⟩
  case round =>
    obtain ⟨k, q, hk, hq1, rfl, hbel, A, A2⟩ := hrel
    have hsz := hbel.size
    by_cases hlt : k < n
    · obtain ⟨x, y, hxy⟩ : ∃ x y, l.getD k (0, 0) = (x, y) := ⟨_, _, rfl⟩
      have c0 : wr.cell? ⟨b, off + k * 2, none⟩ = some (.int .i64 x) := by rw [hbel.cell (p := ⟨b, off + k * 2, none⟩) hB, (HC.out k hlt).1, hxy]
      have c1 : wr.cell? ⟨b, off + k * 2 + 1, none⟩ = some (.int .i64 y) := by rw [hbel.cell (p := ⟨b, off + k * 2 + 1, none⟩) hB, (HC.out k hlt).2, hxy]
      have HXY : Aside (l.getD k (0, 0) = (x, y)) := hxy
      clear hxy
      have hki : (k : Int) < (n : Int) := by omega
      by_cases g1 : 0 ≤ x ∧ x ≤ 99
      · obtain ⟨g1, g2⟩ := g1
        by_cases g3 : 0 ≤ y ∧ y ≤ 996
        · obtain ⟨g3, g4⟩ := g3
          by_cases h0 : k = 0
          · have hg : decide (0 < k) = false := by simp; omega
            have H0 : Hid (k = 0) := h0
            clear h0
            go_wp2_with fail
            go_quiet ((first | (go_at_call 46; exact Calls.quiet_of_same (isKey_yes _ _ g1 g2)) | (go_at_call 45; exact Calls.quiet_of_same (within_yes _ _ _ _ g3 g4))))
            go_wp2
            go_roundg (gk - 1)
            case measure => omega
            case rel => exact ⟨k + 1, x, by omega, by omega, by go_num, below_drewN hbel _, by show x = (l.getD _ (0, 0)).1; rw [HXY.out], by unfold Aside; rw [← A2.out, M.chkFrom_good q l k (by rw [HL.out]; exact hlt) x y HXY.out (by have e := A.out; rw [H0.out] at e; have : q = -1 := e; omega) (by omega) (by omega) (by omega)]⟩
          · obtain ⟨j, rfl⟩ : ∃ j, k = j + 1 := ⟨k - 1, by omega⟩
            have cj : wr.cell? ⟨b, off + j * 2, none⟩ = some (.int .i64 (l.getD j (0, 0)).1) := by rw [hbel.cell (p := ⟨b, off + j * 2, none⟩) hB, (HC.out j (by omega)).1]
            obtain ⟨z, hz⟩ : ∃ z, z = (l.getD j (0, 0)).1 := ⟨_, rfl⟩
            rw [← hz] at cj
            have HZ : Hid (z = (l.getD j (0, 0)).1) := hz
            clear hz h0
            by_cases h5 : x ≤ z
            · go_wp2_with fail
              go_quiet ((first | (go_at_call 46; exact Calls.quiet_of_same (isKey_yes _ _ g1 g2)) | (go_at_call 45; exact Calls.quiet_of_same (within_yes _ _ _ _ g3 g4))))
              go_wp2
              go_ret
              exact ⟨ret_int (A2.out.symm.trans (M.chkFrom_bad q l (j + 1) (by rw [HL.out]; exact hlt) x y HXY.out (by have e := A.out; have : q = z := e.trans HZ.out.symm; omega))).symm, below_drewN hbel _⟩
            · have hg : decide (x ≤ z) = false := by simp; omega
              go_wp2_with fail
              go_quiet ((first | (go_at_call 46; exact Calls.quiet_of_same (isKey_yes _ _ g1 g2)) | (go_at_call 45; exact Calls.quiet_of_same (within_yes _ _ _ _ g3 g4))))
              go_wp2
              go_roundg (gk - 1)
              case measure => omega
              case rel => exact ⟨j + 1 + 1, x, by omega, by omega, by go_num, below_drewN hbel _, by show x = (l.getD _ (0, 0)).1; rw [HXY.out], by unfold Aside; rw [← A2.out, M.chkFrom_good q l (j + 1) (by rw [HL.out]; exact hlt) x y HXY.out (by have e := A.out; have : q = z := e.trans HZ.out.symm; omega) (by omega) (by omega) (by omega)]⟩
        · have g3' : y < 0 ∨ 996 < y := by omega
          have G : Hid (y < 0 ∨ 996 < y) := g3'
          clear g3 g3'
          go_wp2_with fail
          go_quiet ((first | (go_at_call 46; exact Calls.quiet_of_same (isKey_yes _ _ g1 g2)) | (go_at_call 45; exact Calls.quiet_of_same (within_no _ _ _ _ G.out))))
          go_wp2
          go_ret
          exact ⟨ret_int (A2.out.symm.trans (M.chkFrom_bad q l k (by rw [HL.out]; exact hlt) x y HXY.out (by have := G.out; omega))).symm, below_drewN hbel _⟩
      · have g3' : x < 0 ∨ 99 < x := by omega
        have G : Hid (x < 0 ∨ 99 < x) := g3'
        clear g1 g3'
        go_wp2_with fail
        go_quiet ((go_at_call 46; exact Calls.quiet_of_same (isKey_no _ _ G.out)))
        go_wp2
        go_ret
        exact ⟨ret_int (A2.out.symm.trans (M.chkFrom_bad q l k (by rw [HL.out]; exact hlt) x y HXY.out (by have := G.out; omega))).symm, below_drewN hbel _⟩
    · go_wp2
      go_ret
      exact ⟨ret_int (A2.out.symm.trans (M.chkFrom_end q l k (by rw [HL.out]; omega))).symm, hbel⟩
theorem error_any (a : Option Addr) (n cap : Nat) (l : List (Int × Int)) (w : World) (h : Rd w a n l) (hm : n ≤ 9223372036854775807) :
    Calls Tryz.prog 16 #[.slice a n cap] w fun e w' => e = .returned (.int .i64 (M.chk l)) ∧ Below w.heap.size w w' := by
  by_cases h40 : 40 < n
  · refine (error_many a n cap w h40 hm).mono ?_
    rintro e w' ⟨rfl, rfl⟩
    exact ⟨by rw [M.chk_many l (by rw [h.1]; exact h40)], Below.refl _ _⟩
  · have e := M.chk_few l (by rw [h.1]; omega)
    rcases h.cases with ⟨rfl, rfl⟩ | ⟨b, off, rfl, hn, hl, hB, hc⟩
    · refine (error_none a cap w).mono ?_
      rintro e w' ⟨rfl, rfl⟩
      exact ⟨rfl, Below.refl _ _⟩
    · rw [e]
      exact error_some b off n cap l w (by omega) hl hB hc
end Go.Proofs.YtcgpgflnihjpiagGreat
