/- Rows that a call itself has made, and rows appended to them. -/
import Derived.Test.YtcgpgflnihjpiacCheck
import Derived.Laws.AppendOwnNone
namespace Go.Proofs.Ytcgpgflnihjpiac
open Go.RowKit

/-- The cells of rows. -/
def enc (l : List (Int × Int)) : List Value := l.flatMap fun r => [.int .i64 r.1, .int .i64 r.2]

theorem enc_length (l : List (Int × Int)) : (enc l).length = l.length * 2 := by
  induction l with
  | nil => rfl
  | cons r t ih => simp [enc] at ih ⊢; omega
theorem enc_append (a b : List (Int × Int)) : enc (a ++ b) = enc a ++ enc b := by simp [enc]
theorem enc_cons (r : Int × Int) (t : List (Int × Int)) : enc (r :: t) = .int .i64 r.1 :: .int .i64 r.2 :: enc t := by simp [enc]
theorem enc_key (l : List (Int × Int)) (i : Nat) (h : i < l.length) : (enc l)[i * 2]? = some (.int .i64 (l.getD i (0, 0)).1) := by
  induction l generalizing i with
  | nil => simp at h
  | cons r t ih =>
    rw [enc_cons]
    cases i with
    | zero => simp
    | succ i => rw [show (i + 1) * 2 = i * 2 + 1 + 1 by omega, List.getElem?_cons_succ, List.getElem?_cons_succ, ih i (by simpa using h)]; simp
theorem enc_val (l : List (Int × Int)) (i : Nat) (h : i < l.length) : (enc l)[i * 2 + 1]? = some (.int .i64 (l.getD i (0, 0)).2) := by
  induction l generalizing i with
  | nil => simp at h
  | cons r t ih =>
    rw [enc_cons]
    cases i with
    | zero => simp
    | succ i => rw [show (i + 1) * 2 + 1 = i * 2 + 1 + 1 + 1 by omega, List.getElem?_cons_succ, List.getElem?_cons_succ, ih i (by simpa using h)]; simp
theorem enc_one (l : List (Int × Int)) : ∀ u ∈ enc l, u.oneCell' = true := by
  intro u hu
  simp only [enc, List.mem_flatMap] at hu
  obtain ⟨r, _, h⟩ := hu
  simp at h
  rcases h with rfl | rfl <;> rfl

theorem Rd.enc {w : World} {b off n : Nat} {l : List (Int × Int)} (hl : l.length = n)
    (hc : ∀ i, i < n → w.cell? ⟨b, off + i * 2, none⟩ = some (.int .i64 (l.getD i (0, 0)).1) ∧ w.cell? ⟨b, off + i * 2 + 1, none⟩ = some (.int .i64 (l.getD i (0, 0)).2)) :
    ∀ j u, (enc l)[j]? = some u → w.cell? ((⟨b, off, none⟩ : Addr).add j) = some u := by
  intro j u hj
  have hjl : j < (Ytcgpgflnihjpiac.enc l).length := (List.getElem?_eq_some_iff.1 hj).1
  rw [enc_length] at hjl
  have hi : j / 2 < l.length := by omega
  rcases Nat.mod_two_eq_zero_or_one j with h0 | h1
  · obtain ⟨i, rfl⟩ : ∃ i, j = i * 2 := ⟨j / 2, by omega⟩
    rw [enc_key l i (by omega)] at hj
    rw [← hj, Addr.add_lit]; exact (hc i (by omega)).1
  · obtain ⟨i, rfl⟩ : ∃ i, j = i * 2 + 1 := ⟨j / 2, by omega⟩
    rw [enc_val l i (by omega)] at hj
    rw [← hj, Addr.add_lit, ← Nat.add_assoc]
    exact (hc i (by omega)).2

/-- The rows l lie in a row of the call's own. -/
def Own (w : World) (base : Nat) (v : Value) (l : List (Int × Int)) : Prop := w.ownsRow base 56 2 v l.length (enc l)

theorem Own.rd {w : World} {base : Nat} {v : Value} {l : List (Int × Int)} (h : Own w base v l) : ∃ a cap, v = .slice a l.length cap ∧ Rd w a l.length l ∧ l.length ≤ cap ∧ cap ≤ maxLen ∧ (a = none → l.length = 0 ∧ cap = 0) := by
  have h0 := h
  obtain ⟨h1, h2⟩ := h
  rcases h2 with ⟨rfl, hn⟩ | ⟨g, cap, cur, rfl, hb, hh, hc, hm, hs, hx⟩
  · exact ⟨none, 0, by rw [hn], ⟨rfl, Or.inl hn⟩, by omega, by simp [maxLen], fun _ => ⟨hn, rfl⟩⟩
  · refine ⟨_, cap, rfl, ⟨rfl, ?_⟩, hc, hm, fun h => by simp at h⟩
    have hlt : g < w.heap.size := (Array.getElem?_eq_some_iff.1 hh).1
    refine Or.inr ⟨g, 0, rfl, hlt, fun i hi => ⟨?_, ?_⟩⟩
    · rw [World.ownsRow.cellAt h0 (0 + i * 2) (by omega), Nat.zero_add, enc_key l i hi]
    · rw [World.ownsRow.cellAt h0 (0 + i * 2 + 1) (by omega), Nat.zero_add, enc_val l i hi]

theorem infoRow : (Try.prog.info? 56).map (fun i => (i.zero, i.size, i.bytes)) = some (some (.agg #[.int .i64 0, .int .i64 0]), 2, 16) := by kernel_rfl

/-- Rows appended to rows of the call's own. -/
theorem append_rd {w : World} {ops : Array Oper} {rest : List Oper} {o : Oper} {a : Act} {Q : Exit → Act → World → Prop} (hgd : o.guard = none) (s x : Operand)
    (ho : o.op = .call { callee := .builtin .append, args := #[s, x], argTypes := #[32, 32] })
    (base : Nat) (v : Value) (l : List (Int × Int)) (hs : a.eval s = v) (hown : Own w base v l)
    (ao : Option Addr) (m c : Nat) (l2 : List (Int × Int)) (hx : a.eval x = .slice ao m c) (hr : Rd w ao m l2) (hnil : ao = none → m = 0 ∧ c = 0)
    (hbig : l.length + m ≤ 1000000) (hbase : base ≤ w.heap.size)
    (h : ∀ v' w', Own w' base v' (l ++ l2) → Below base w w' → wpList Try.prog ops Q rest (a.put o.dst v') w') : wpList Try.prog ops Q (o :: rest) a w := by
  obtain ⟨i0, hi, hz0, hz1, hz2⟩ := info_parts infoRow
  cases ao with
  | none =>
    obtain ⟨rfl, rfl⟩ := hnil rfl
    have e2 : l2 = [] := List.eq_nil_of_length_eq_zero hr.1
    subst e2
    refine wpList_append_own_none hgd s x 32 ho base 56 i0 2 Try.underlying32 hi v l.length (enc l) hs hown hx ?_
    exact h v w (by simpa using hown) (Below.refl _ _)
  | some ad =>
    have hm2 : (enc l2).length = m * 2 := by rw [enc_length, hr.1]
    have hnews : ∀ j u, (enc l2)[j]? = some u → w.cell? (ad.add j) = some u := by
      rcases hr.cases with ⟨rfl, rfl⟩ | ⟨b, off, hab, hn, hl, hB, hc⟩
      · intro j u hj; simp [Ytcgpgflnihjpiac.enc] at hj
      · obtain rfl : ad = ⟨b, off, none⟩ := by simpa using hab
        exact Rd.enc hl hc
    refine wpList_append_own _ hgd s x 32 ho base 56 i0 (.agg #[.int .i64 0, .int .i64 0]) 2 16 Try.underlying32 hi hz0 hz1 hz2 rfl (by decide) v l.length (enc l) hs hown ad m c (enc l2) hx hm2 hnews (enc_one l2)
      (by simp only [maxLen]; omega) (by omega) hbase ?_
    intro v' w' h1 h2 _
    refine h v' w' ?_ ((Below.refl _ _).grown h2 hbase fun k hk => (World.ownsRow.lt hown k hk).1)
    unfold Own
    rw [enc_append, List.length_append, hr.1]
    exact h1

theorem Rd.zero {w : World} {a : Option Addr} {n : Nat} {l : List (Int × Int)} (h : n = 0) (hl : l.length = n) : Rd w a n l := ⟨hl, Or.inl h⟩
theorem Rd.take {w : World} {a : Option Addr} {n : Nat} {l : List (Int × Int)} (h : Rd w a n l) (k : Nat) (hk : k ≤ n) : Rd w a k (l.take k) := by
  obtain ⟨h1, h2⟩ := h
  refine ⟨by rw [List.length_take]; omega, ?_⟩
  rcases h2 with h2 | ⟨b, off, ha, hlt, hc⟩
  · exact Or.inl (by omega)
  · refine Or.inr ⟨b, off, ha, hlt, fun i hi => ?_⟩
    have e : (l.take k).getD i (0, 0) = l.getD i (0, 0) := by simp [List.getD, hi]
    rw [e]; exact hc i (by omega)
theorem Rd.drop {w : World} {b off n : Nat} {l : List (Int × Int)} (h : Rd w (some ⟨b, off, none⟩) n l) (k : Nat) : Rd w (some ⟨b, off + k * 2, none⟩) (n - k) (l.drop k) := by
  obtain ⟨h1, h2⟩ := h
  refine ⟨by rw [List.length_drop]; omega, ?_⟩
  by_cases hk : n ≤ k
  · exact Or.inl (by omega)
  · rcases h2 with h2 | ⟨b', off', ha, hlt, hc⟩
    · exact Or.inl (by omega)
    · obtain ⟨rfl, rfl⟩ : b = b' ∧ off = off' := by simpa using ha
      refine Or.inr ⟨b, off + k * 2, rfl, hlt, fun i hi => ?_⟩
      have e : (l.drop k).getD i (0, 0) = l.getD (k + i) (0, 0) := by simp [List.getD]
      have := hc (k + i) (by omega)
      rw [e, show off + k * 2 + i * 2 = off + (k + i) * 2 by omega]
      exact this

theorem drewN_below (w : World) (m : Nat) : Below w.heap.size w (w.drewN m) := below_drewN (Below.refl _ _) m

theorem one_rd (w : World) (key val : Int) : Rd (w.alloc (.cells #[.int .i64 key, .int .i64 val] 56)) (some ⟨w.heap.size, 0, none⟩) 1 [(key, val)] := by
  refine ⟨rfl, Or.inr ⟨w.heap.size, 0, rfl, by simp, fun i hi => ?_⟩⟩
  obtain rfl : i = 0 := by omega
  constructor <;> simp [go_sem]

theorem flat_take (LL : List (List (Int × Int))) (i : Nat) (h : i < LL.length) : (LL.take (i + 1)).flatten = (LL.take i).flatten ++ LL.getD i [] := by
  rw [List.take_succ_eq_append_getElem h, List.flatten_append]
  simp [List.getD, h]
theorem flat_le (LL : List (List (Int × Int))) (i : Nat) : (LL.take i).flatten.length ≤ LL.flatten.length := by
  have h := congrArg (fun x => x.flatten.length) (List.take_append_drop i LL)
  simp only [List.flatten_append, List.length_append] at h
  omega

end Go.Proofs.Ytcgpgflnihjpiac
