/- Rows that a call itself has made, and rows appended to them; slices.Grow at nil; slices.Concat; SameRows. -/
import Derived.Test.YtaghijeglkookaaFind
import Derived.Laws.AppendOwnNone
import Derived.Lib.AppendZeros
namespace Go.Proofs.Ytaghijeglkookaa
open Go.RowKit

/-- The cells of rows. -/
def enc (l : List (Int × Int)) : List Value := l.flatMap fun r => [.int .i64 r.1, .int .i64 r.2]

theorem enc_length (l : List (Int × Int)) : (enc l).length = l.length * 2 := by
  induction l with
  | nil => rfl
  | cons r t ih => simp [enc] at ih ⊢; omega
theorem enc_append (a b : List (Int × Int)) : enc (a ++ b) = enc a ++ enc b := by simp [enc]
theorem enc_cons (r : Int × Int) (t : List (Int × Int)) : enc (r :: t) = .int .i64 r.1 :: .int .i64 r.2 :: enc t := by simp [enc]
theorem enc_key (l : List (Int × Int)) (i : Nat) (h : i < l.length) : (enc l)[i * 2]? = some (.int .i64 (l.getD i (0, 0)).1) := by
  induction l generalizing i with
  | nil => simp at h
  | cons r t ih =>
    rw [enc_cons]
    cases i with
    | zero => simp
    | succ i => rw [show (i + 1) * 2 = i * 2 + 1 + 1 by omega, List.getElem?_cons_succ, List.getElem?_cons_succ, ih i (by simpa using h)]; simp
theorem enc_val (l : List (Int × Int)) (i : Nat) (h : i < l.length) : (enc l)[i * 2 + 1]? = some (.int .i64 (l.getD i (0, 0)).2) := by
  induction l generalizing i with
  | nil => simp at h
  | cons r t ih =>
    rw [enc_cons]
    cases i with
    | zero => simp
    | succ i => rw [show (i + 1) * 2 + 1 = i * 2 + 1 + 1 + 1 by omega, List.getElem?_cons_succ, List.getElem?_cons_succ, ih i (by simpa using h)]; simp
theorem enc_one (l : List (Int × Int)) : ∀ u ∈ enc l, u.oneCell' = true := by
  intro u hu
  simp only [enc, List.mem_flatMap] at hu
  obtain ⟨r, _, h⟩ := hu
  simp at h
  rcases h with rfl | rfl <;> rfl

theorem Rd.enc {w : World} {b off n : Nat} {l : List (Int × Int)} (hl : l.length = n)
    (hc : ∀ i, i < n → w.cell? ⟨b, off + i * 2, none⟩ = some (.int .i64 (l.getD i (0, 0)).1) ∧ w.cell? ⟨b, off + i * 2 + 1, none⟩ = some (.int .i64 (l.getD i (0, 0)).2)) :
    ∀ j u, (enc l)[j]? = some u → w.cell? ((⟨b, off, none⟩ : Addr).add j) = some u := by
  intro j u hj
  have hjl : j < (Ytaghijeglkookaa.enc l).length := (List.getElem?_eq_some_iff.1 hj).1
  rw [enc_length] at hjl
  have hi : j / 2 < l.length := by omega
  rcases Nat.mod_two_eq_zero_or_one j with h0 | h1
  · obtain ⟨i, rfl⟩ : ∃ i, j = i * 2 := ⟨j / 2, by omega⟩
    rw [enc_key l i (by omega)] at hj
    rw [← hj, Addr.add_lit]; exact (hc i (by omega)).1
  · obtain ⟨i, rfl⟩ : ∃ i, j = i * 2 + 1 := ⟨j / 2, by omega⟩
    rw [enc_val l i (by omega)] at hj
    rw [← hj, Addr.add_lit, ← Nat.add_assoc]
    exact (hc i (by omega)).2

/-- The rows l lie in a row of the call's own. -/
def Own (w : World) (base : Nat) (v : Value) (l : List (Int × Int)) : Prop := w.ownsRow base 39 2 v l.length (enc l)

theorem Own.rd {w : World} {base : Nat} {v : Value} {l : List (Int × Int)} (h : Own w base v l) : ∃ a cap, v = .slice a l.length cap ∧ Rd w a l.length l ∧ l.length ≤ cap ∧ cap ≤ maxLen ∧ (a = none → l.length = 0 ∧ cap = 0) := by
  have h0 := h
  obtain ⟨h1, h2⟩ := h
  rcases h2 with ⟨rfl, hn⟩ | ⟨g, cap, cur, rfl, hb, hh, hc, hm, hs, hx⟩
  · exact ⟨none, 0, by rw [hn], ⟨rfl, Or.inl hn⟩, by omega, by simp [maxLen], fun _ => ⟨hn, rfl⟩⟩
  · refine ⟨_, cap, rfl, ⟨rfl, ?_⟩, hc, hm, fun h => by simp at h⟩
    have hlt : g < w.heap.size := (Array.getElem?_eq_some_iff.1 hh).1
    refine Or.inr ⟨g, 0, rfl, hlt, fun i hi => ⟨?_, ?_⟩⟩
    · rw [World.ownsRow.cellAt h0 (0 + i * 2) (by omega), Nat.zero_add, enc_key l i hi]
    · rw [World.ownsRow.cellAt h0 (0 + i * 2 + 1) (by omega), Nat.zero_add, enc_val l i hi]

theorem infoRow : (Try.prog.info? 39).map (fun i => (i.zero, i.size, i.bytes)) = some (some (.agg #[.int .i64 0, .int .i64 0]), 2, 16) := by kernel_rfl

/-- Rows appended to rows of the call's own. -/
theorem append_rd {w : World} {ops : Array Oper} {rest : List Oper} {o : Oper} {a : Act} {Q : Exit → Act → World → Prop} (hgd : o.guard = none) (s x : Operand)
    (ho : o.op = .call { callee := .builtin .append, args := #[s, x], argTypes := #[22, 22] })
    (base : Nat) (v : Value) (l : List (Int × Int)) (hs : a.eval s = v) (hown : Own w base v l)
    (ao : Option Addr) (m c : Nat) (l2 : List (Int × Int)) (hx : a.eval x = .slice ao m c) (hr : Rd w ao m l2) (hnil : ao = none → m = 0 ∧ c = 0)
    (hbig : l.length + m ≤ 1000000) (hbase : base ≤ w.heap.size)
    (h : ∀ v' w', Own w' base v' (l ++ l2) → Below base w w' → wpList Try.prog ops Q rest (a.put o.dst v') w') : wpList Try.prog ops Q (o :: rest) a w := by
  obtain ⟨i0, hi, hz0, hz1, hz2⟩ := info_parts infoRow
  cases ao with
  | none =>
    obtain ⟨rfl, rfl⟩ := hnil rfl
    have e2 : l2 = [] := List.eq_nil_of_length_eq_zero hr.1
    subst e2
    refine wpList_append_own_none hgd s x 22 ho base 39 i0 2 Try.underlying22 hi v l.length (enc l) hs hown hx ?_
    exact h v w (by simpa using hown) (Below.refl _ _)
  | some ad =>
    have hm2 : (enc l2).length = m * 2 := by rw [enc_length, hr.1]
    have hnews : ∀ j u, (enc l2)[j]? = some u → w.cell? (ad.add j) = some u := by
      rcases hr.cases with ⟨rfl, rfl⟩ | ⟨b, off, hab, hn, hl, hB, hc⟩
      · intro j u hj; simp [Ytaghijeglkookaa.enc] at hj
      · obtain rfl : ad = ⟨b, off, none⟩ := by simpa using hab
        exact Rd.enc hl hc
    refine wpList_append_own _ hgd s x 22 ho base 39 i0 (.agg #[.int .i64 0, .int .i64 0]) 2 16 Try.underlying22 hi hz0 hz1 hz2 rfl (by decide) v l.length (enc l) hs hown ad m c (enc l2) hx hm2 hnews (enc_one l2)
      (by simp only [maxLen]; omega) (by omega) hbase ?_
    intro v' w' h1 h2 _
    refine h v' w' ?_ ((Below.refl _ _).grown h2 hbase fun k hk => (World.ownsRow.lt hown k hk).1)
    unfold Own
    rw [enc_append, List.length_append, hr.1]
    exact h1

set_option maxHeartbeats 1000000 in
theorem grow_some (n : Nat) (w : World) (h0 : 0 < n) (hn : n ≤ 1000000) :
    Calls Try.prog 43 #[.slice none 0 0, .int .i64 n] w fun e w' => ∃ v, e = .returned v ∧ Own w' w.heap.size v [] ∧ Below w.heap.size w w' := by
  obtain ⟨i0, hi, hz0, hz1, hz2⟩ := info_parts infoRow
  have hrz := fun ty => Lib.run_append_nil_zeros (P := Try.prog) w 22 3 ty 39 i0 _ .i64 .i64 Try.underlying22 Try.underlying3 hi hz0 n h0 (by omega) (by omega) (by rw [hz2]; omega)
  have hGn : n ≤ grownCap w n 0 39 := grownCap_ge w _ _ _
  obtain ⟨G, hG⟩ : ∃ G, G = grownCap w n 0 39 := ⟨_, rfl⟩
  have hG63 : G ≤ maxLen := by rw [hG]; exact grownCap_le_maxLen w n 0 39 (by unfold maxLen; omega)
  rw [← hG] at hrz hGn
  obtain ⟨C, hC⟩ : ∃ C, C = Builtin.zeroCells (Value.agg #[.int .i64 0, .int .i64 0]).cells n ++ Builtin.zeroCells (Value.agg #[.int .i64 0, .int .i64 0]).cells (G - n) := ⟨_, rfl⟩
  rw [← hC] at hrz
  have hCs : C.size = G * 2 := by rw [hC]; simp [Builtin.zeroCells, Value.cells]; omega
  have hown := World.ownsRow_made (base := w.heap.size) (e := 39) (size := 2) w.drew C G (Nat.le_refl _) hG63 hCs
  unfold maxLen at hG63
  have HO : Hid ((w.drew.alloc (.cells C 39)).ownsRow w.heap.size 39 2 (.slice (some ⟨w.heap.size, 0, none⟩) 0 G) 0 []) := hown
  have HR : Hid (∀ ty, (Builtin.append_ #[22, 3] ty #[.slice none 0 0, .int .i64 n]).run Try.prog w = .ok (.slice (some ⟨w.heap.size, 0, none⟩) n G) (w.drew.alloc (.cells C 39))) := hrz
  clear hC hG hrz hCs hown hi hz0 hz1 hz2
  go_enter Try.func43, Try.ntmps43
  go_wp2_with (at_builtin; refine Lib.wpList_append_run _ rfl _ _ _ _ rfl _ _ rfl rfl _ _ (HR.out _) ?_)
  go_ret
  exact ⟨_, rfl, HO.out, (Below.refl _ _).drew.alloc (Nat.le_refl _) _⟩

theorem grow_none (w : World) :
    Calls Try.prog 43 #[.slice none 0 0, .int .i64 0] w fun e w' => ∃ v, e = .returned v ∧ Own w' w.heap.size v [] ∧ Below w.heap.size w w' := by
  go_enter Try.func43, Try.ntmps43
  go_wp2
  go_ret
  exact ⟨_, rfl, World.ownsRow_nil _ _ _ _, Below.refl _ _⟩

theorem grow_any (n : Nat) (w : World) (hn : n ≤ 1000000) :
    Calls Try.prog 43 #[.slice none 0 0, .int .i64 n] w fun e w' => ∃ v, e = .returned v ∧ Own w' w.heap.size v [] ∧ Below w.heap.size w w' := by
  by_cases h : n = 0
  · subst h; exact grow_none w
  · exact grow_some n w (by omega) hn

/-- Several slices of rows, side by side in memory. -/
def Rds (w : World) (b off k : Nat) (A : Nat → Option Addr) (C : Nat → Nat) (LL : List (List (Int × Int))) : Prop :=
  LL.length = k ∧ b < w.heap.size ∧ ∀ i, i < k → w.cell? ⟨b, off + i, none⟩ = some (.slice (A i) (LL.getD i []).length (C i)) ∧ Rd w (A i) (LL.getD i []).length (LL.getD i []) ∧ (A i = none → (LL.getD i []).length = 0 ∧ C i = 0)

theorem Rds.below {w w' : World} {b off k : Nat} {A : Nat → Option Addr} {C : Nat → Nat} {LL : List (List (Int × Int))} (h : Rds w b off k A C LL) {B : Nat} (hb : Below B w w') (hB : w.heap.size ≤ B) : Rds w' b off k A C LL := by
  obtain ⟨h1, h2, h3⟩ := h
  refine ⟨h1, Nat.lt_of_lt_of_le h2 hb.size, fun i hi => ⟨?_, (h3 i hi).2.1.below hb hB, (h3 i hi).2.2⟩⟩
  rw [hb.cell (p := ⟨b, off + i, none⟩) (by show b < B; omega)]
  exact (h3 i hi).1

theorem flat_take (LL : List (List (Int × Int))) (i : Nat) (h : i < LL.length) : (LL.take (i + 1)).flatten = (LL.take i).flatten ++ LL.getD i [] := by
  rw [List.take_succ_eq_append_getElem h, List.flatten_append]
  simp [List.getD, h]
theorem flat_le (LL : List (List (Int × Int))) (i : Nat) : (LL.take i).flatten.length ≤ LL.flatten.length := by
  have h := congrArg (fun x => x.flatten.length) (List.take_append_drop i LL)
  simp only [List.flatten_append, List.length_append] at h
  omega

set_option maxHeartbeats 2000000 in
theorem concat_any (b off k cap : Nat) (A : Nat → Option Addr) (C : Nat → Nat) (LL : List (List (Int × Int))) (w : World) (hk : k ≤ 1000) (hR : Rds w b off k A C LL) (hbig : LL.flatten.length ≤ 1000000) :
    Calls Try.prog 32 #[.slice (some ⟨b, off, none⟩) k cap] w fun e w' => ∃ v, e = .returned v ∧ Own w' w.heap.size v LL.flatten ∧ Below w.heap.size w w' := by
  have HR : Aside (Rds w b off k A C LL) := hR
  clear hR
  have HBig : Aside (LL.flatten.length ≤ 1000000) := hbig
  clear hbig
  go_enter Try.func32, Try.ntmps32
  go_wp2
  go_loopg [3, 11] k (fun g s i wr => ∃ j q : Nat, j + g = k ∧ i = .int .i64 j ∧ s = .int .i64 q ∧ w = wr ∧ Aside (q = (LL.take j).flatten.length))
  case atStart => exact ⟨0, 0, by omega, rfl, rfl, rfl, rfl⟩
  case round =>
    obtain ⟨j, q, hj, rfl, rfl, rfl, HQ⟩ := hrel
    by_cases hlt : j < k
    · have c := (HR.out.2.2 j hlt).1
      obtain ⟨m, hm⟩ : ∃ m, m = (LL.getD j []).length := ⟨_, rfl⟩
      rw [← hm] at c
      have e1 : q + m = (LL.take (j + 1)).flatten.length := by rw [flat_take LL j (by rw [HR.out.1]; exact hlt), List.length_append, HQ.out, hm]
      have e2 : q + m ≤ 1000000 := by rw [e1]; exact Nat.le_trans (flat_le LL (j + 1)) HBig.out
      have E1 : Aside (q + m = (LL.take (j + 1)).flatten.length) := e1
      clear e1 hm
      go_wp2
      go_roundg (gk - 1)
      case measure => omega
      case rel => exact ⟨j + 1, q + m, by omega, by go_num, by go_num, rfl, E1⟩
    · obtain rfl : j = k := by omega
      have e2 : q ≤ 1000000 := by rw [HQ.out]; exact Nat.le_trans (flat_le LL j) HBig.out
      go_wp2_with fail
      refine (grow_any q _ e2).mono ?_
      rintro e w1 ⟨v, rfl, hown, hb1⟩
      have HO : Aside (Own w1 w.heap.size v []) := hown
      clear hown
      go_wp2_with fail
      go_loopg [6, 27] j (fun g s i ws => ∃ t : Nat, t + g = j ∧ i = .int .i64 t ∧ Aside (Own ws w.heap.size s (LL.take t).flatten) ∧ Below w.heap.size w ws)
      case atStart => exact ⟨0, by omega, rfl, HO, hb1⟩
      case round =>
        obtain ⟨t, ht, rfl, HT, hb2⟩ := hrel
        by_cases hlt2 : t < j
        · have R2 := HR.out.below hb2 (Nat.le_refl _)
          obtain ⟨c, r2, hnil⟩ := R2.2.2 t hlt2
          obtain ⟨l2, hl2⟩ : ∃ l2, l2 = LL.getD t [] := ⟨_, rfl⟩
          rw [← hl2] at c r2 hnil
          obtain ⟨m, hm⟩ : ∃ m, m = l2.length := ⟨_, rfl⟩
          rw [← hm] at c r2 hnil
          have e1 : (LL.take (t + 1)).flatten = (LL.take t).flatten ++ l2 := by rw [flat_take LL t (by rw [HR.out.1]; exact hlt2), hl2]
          have e3 : (LL.take t).flatten.length + m ≤ 1000000 := by
            have h3 := flat_le LL (t + 1)
            rw [e1, List.length_append, ← hm] at h3
            exact Nat.le_trans h3 HBig.out
          have E1 : Aside ((LL.take (t + 1)).flatten = (LL.take t).flatten ++ l2) := e1
          have E3 : Aside ((LL.take t).flatten.length + m ≤ 1000000) := e3
          have HR2 : Aside (Rd wr (A t) m l2) := r2
          have HN : Aside (A t = none → m = 0 ∧ C t = 0) := hnil
          clear e1 e3 hm hl2 R2 r2 hnil
          go_wp2_with (at_builtin; refine append_rd rfl _ _ rfl w.heap.size _ (LL.take t).flatten rfl HT.out (A t) m (C t) l2 rfl HR2.out HN.out E3.out hb2.size ?_)
          intro v' w' ho' hb3
          have HO' : Aside (Own w' w.heap.size v' ((LL.take t).flatten ++ l2)) := ho'
          have hb4 := hb2.trans hb3
          clear ho' hb3
          go_wp2
          go_roundg (gk - 1)
          case measure => omega
          case rel => exact ⟨t + 1, by omega, by go_num, by unfold Aside; rw [E1.out]; exact HO'.out, hb4⟩
        · obtain rfl : t = j := by omega
          have e1 : (LL.take t).flatten = LL.flatten := by rw [List.take_of_length_le (by rw [HR.out.1]; omega)]
          have E1 : Aside ((LL.take t).flatten = LL.flatten) := e1
          clear e1
          go_wp2
          go_ret
          exact ⟨_, rfl, by have h5 := HT.out; rw [E1.out] at h5; exact h5, hb2⟩
end Go.Proofs.Ytaghijeglkookaa
