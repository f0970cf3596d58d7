/- Plain facts on logs: acts, one behind the other, and logs that are cut, with no program in sight. -/
import Derived.Test.YtcgpgflnihjpiagGreatBLogMore02
import Derived.Test.YtcgpgflnihjpiagGreatBLogMore01
import Derived.Laws.AppendOwnNone
import Derived.Deep.RegionHeld
import Derived.RangeFuncBox
import Derived.Lib.SliceRun
import Derived.Deep.AppendLies
namespace Go.Proofs.YtcgpgflnihjpiagGreat.M

/-- The acts that a text begins with, n at most, and what is behind them. -/
def rAs : Nat → By → List Act × By
  | 0, l => ([], l)
  | n + 1, l => match rA l with
    | none => ([], l)
    | some (x, l1) => (x :: (rAs n l1).1, (rAs n l1).2)
theorem pA_pos (x : Act) : 4 ≤ (pA x).length := by
  unfold pA pT pL
  simp; omega
theorem rA_less {l t : By} {x : Act} (h : rA l = some (x, t)) : t.length + 4 ≤ l.length := by
  rw [(rA_inv h).1, List.length_append]
  have := pA_pos x
  omega
/-- Cut within an act, there is none. -/
theorem rA_cut {x : Act} (h : okA x) (j : Nat) (hj : j < (pA x).length) : rA ((pA x).take j) = none := by
  cases e : rA ((pA x).take j) with
  | none => rfl
  | some p =>
    exfalso
    obtain ⟨y, t⟩ := p
    obtain ⟨e1, oy⟩ := rA_inv e
    have e2 : pA x = pA y ++ (t ++ (pA x).drop j) := by rw [← List.append_assoc, ← e1, List.take_append_drop]
    have h1 := rA_p h []
    rw [List.append_nil] at h1
    have h2 := rA_p oy (t ++ (pA x).drop j)
    rw [← e2, h1] at h2
    simp only [Option.some.injEq, Prod.mk.injEq] at h2
    have h3 := congrArg List.length h2.2
    simp at h3
    omega
theorem rAs_len (n : Nat) (l : By) : (rAs n l).1.length ≤ n ∧ (rAs n l).2.length ≤ l.length := by
  induction n generalizing l with
  | zero => simp [rAs]
  | succ n ih =>
    rw [rAs]
    split
    · simp
    · rename_i x l1 e
      have := rA_less e
      have := ih l1
      simp; omega
theorem rAs_none (n : Nat) (l : By) (h : rA l = none) : rAs n l = ([], l) := by
  cases n with
  | zero => rfl
  | succ n => rw [rAs, h]
theorem rAs_ok (n : Nat) (l : By) : ∀ x ∈ (rAs n l).1, okA x := by
  induction n generalizing l with
  | zero => simp [rAs]
  | succ n ih =>
    rw [rAs]
    split
    · simp
    · rename_i x l1 e
      intro y hy
      rcases List.mem_cons.1 hy with rfl | hy
      · exact (rA_inv e).2
      · exact ih l1 y hy
/-- What was read, written again. -/
theorem rAs_inv (n : Nat) (l : By) : l = (rAs n l).1.flatMap pA ++ (rAs n l).2 := by
  induction n generalizing l with
  | zero => simp [rAs]
  | succ n ih =>
    rw [rAs]
    split
    · simp
    · rename_i x l1 e
      rw [List.flatMap_cons, List.append_assoc, ← ih l1]
      exact (rA_inv e).1
/-- Acts that were written, and something more. -/
theorem rAs_p (xs : List Act) (h : ∀ x ∈ xs, okA x) (n : Nat) (t : By) : rAs (xs.length + n) (xs.flatMap pA ++ t) = (xs ++ (rAs n t).1, (rAs n t).2) := by
  induction xs with
  | nil => simp
  | cons x xs ih =>
    rw [List.length_cons, show xs.length + 1 + n = (xs.length + n) + 1 by omega, rAs, List.flatMap_cons, List.append_assoc, rA_p (h x (by simp))]
    simp only
    rw [ih (fun y hy => h y (by simp [hy]))]
    rfl
/-- How many of the acts are whole in the first k bytes. -/
def whole : List Act → Nat → Nat
  | [], _ => 0
  | x :: xs, k => if (pA x).length ≤ k then whole xs (k - (pA x).length) + 1 else 0
theorem whole_le (xs : List Act) (k : Nat) : whole xs k ≤ xs.length := by
  induction xs generalizing k with
  | nil => simp [whole]
  | cons x xs ih =>
    rw [whole]
    split
    · have := ih (k - (pA x).length); simp; omega
    · simp
theorem rAs_cut (xs : List Act) (h : ∀ x ∈ xs, okA x) (n k : Nat) (hn : xs.length ≤ n) (hk : k ≤ (xs.flatMap pA).length) : (rAs n ((xs.flatMap pA).take k)).1 = xs.take (whole xs k) := by
  induction xs generalizing n k with
  | nil =>
    simp only [List.flatMap_nil, List.take_nil, whole]
    rw [rAs_none _ _ (by rfl)]
  | cons x xs ih =>
    obtain ⟨m, rfl⟩ : ∃ m, n = m + 1 := ⟨n - 1, by simp at hn; omega⟩
    rw [List.flatMap_cons, whole]
    split
    · rename_i hx
      rw [List.take_append, List.take_of_length_le hx, rAs, rA_p (h x (by simp))]
      simp only
      rw [ih (fun y hy => h y (by simp [hy])) m (k - (pA x).length) (by simpa using hn) (by rw [List.flatMap_cons, List.length_append] at hk; omega), List.take_succ_cons]
    · rename_i hx
      rw [List.take_append, show k - (pA x).length = 0 by omega, List.take_zero, List.append_nil, rAs_none _ _ (rA_cut (h x (by simp)) k (by omega))]
      simp
end Go.Proofs.YtcgpgflnihjpiagGreat.M

/- Plain facts on what a pen has put, with no program in sight. -/
namespace Go.Proofs.YtcgpgflnihjpiagGreat.M

def pnB (two : Bool) (n : Int) : Bool := decide (0 ≤ n ∧ n < (if two = true then 65536 else 256))
def pnE (two : Bool) (n : Int) : By := if two = true then b2 n else [b1 n]
/-- One number more: the bytes, and whether a number could not stand. -/
def pnS (two : Bool) (st : By × Bool) (n : Int) : By × Bool := if st.2 = true then st else if pnB two n = true then (st.1 ++ pnE two n, false) else (st.1, true)
def pnL (two : Bool) (st : By × Bool) (ns : List Int) : By × Bool := ns.foldl (pnS two) st
theorem pnL_over (two : Bool) (l : By) (ns : List Int) : pnL two (l, true) ns = (l, true) := by
  induction ns with
  | nil => rfl
  | cons n t ih => unfold pnL at ih ⊢; rw [List.foldl_cons]; exact ih
theorem pnL_take (two : Bool) (st : By × Bool) (ns : List Int) (k : Nat) (h : k < ns.length) : pnL two st (ns.take (k + 1)) = pnS two (pnL two st (ns.take k)) (ns.getD k 0) := by
  unfold pnL
  rw [List.take_succ_eq_append_getElem h, List.foldl_append]
  simp [List.getD, h]
/-- Over once, over for all. -/
theorem pnL_stays (two : Bool) (st : By × Bool) (ns : List Int) (k : Nat) (h : (pnL two st (ns.take k)).2 = true) : pnL two st ns = pnL two st (ns.take k) := by
  have e : pnL two st ns = pnL two (pnL two st (ns.take k)) (ns.drop k) := by
    unfold pnL
    rw [← List.foldl_append, List.take_append_drop]
  rw [e]
  generalize pnL two st (ns.take k) = q at *
  obtain ⟨l, o⟩ := q
  simp only at h
  subst h
  exact pnL_over two l _
theorem byte_mod (n : Nat) : UInt8.ofNat (n % 256) = UInt8.ofNat n := by
  apply UInt8.toNat_inj.1
  rw [UInt8.toNat_ofNat', UInt8.toNat_ofNat']
  omega
/-- A text. -/
def pnT (st : By × Bool) (s : By) : By × Bool := if (pnS false st s.length).2 = true then pnS false st s.length else ((pnS false st s.length).1 ++ s, false)

theorem pnS_len (two : Bool) (st : By × Bool) (n : Int) : (pnS two st n).1.length ≤ st.1.length + 2 := by
  unfold pnS pnE b2
  split
  · omega
  · split
    · cases two <;> simp
    · simp
theorem pnL_len (two : Bool) (st : By × Bool) (ns : List Int) : (pnL two st ns).1.length ≤ st.1.length + 2 * ns.length := by
  unfold pnL
  induction ns generalizing st with
  | nil => simp
  | cons n t ih =>
    rw [List.foldl_cons, List.length_cons]
    have h1 := ih (pnS two st n)
    have h2 := pnS_len two st n
    omega
theorem pnS_small {st : By × Bool} {n : Nat} (h : (pnS false st (n : Int)).2 = false) : n < 256 := by
  unfold pnS pnB at h
  by_cases h1 : st.2 = true
  · rw [if_pos h1] at h; rw [h1] at h; cases h
  · rw [if_neg h1] at h
    by_cases h2 : n < 256
    · exact h2
    · rw [if_neg (by simp; omega)] at h; cases h
theorem pnL_one (two : Bool) (st : By × Bool) (n : Int) : pnL two st [n] = pnS two st n := rfl

theorem pnS_over (two : Bool) (l : By) (n : Int) : pnS two (l, true) n = (l, true) := rfl
theorem pnT_over (l s : By) : pnT (l, true) s = (l, true) := rfl
theorem pnT_len (st : By × Bool) (s : By) : (pnT st s).1.length ≤ st.1.length + 257 := by
  unfold pnT
  have h := pnS_len false st s.length
  split
  · omega
  · rename_i h1
    have h2 := pnS_small (by simpa using h1)
    rw [List.length_append]
    omega
/-- A step: what was over stays so; else something more is put, or it is over. -/
def Step (st st' : By × Bool) (ok : Prop) (add : By) : Prop := (st.2 = true → st' = st) ∧ (st.2 = false → ok → st' = (st.1 ++ add, false)) ∧ (st.2 = false → ¬ ok → st'.2 = true)
theorem Step.then {a b c : By × Bool} {ok ok' : Prop} {x y : By} (h : Step a b ok x) (k : Step b c ok' y) : Step a c (ok ∧ ok') (x ++ y) := by
  refine ⟨fun e => ?_, fun e ⟨h1, h2⟩ => ?_, fun e hn => ?_⟩
  · have e1 := h.1 e
    rw [k.1 (by rw [e1]; exact e), e1]
  · have e1 := h.2.1 e h1
    rw [k.2.1 (by rw [e1]) h2, e1, List.append_assoc]
  · by_cases h1 : ok
    · have e1 := h.2.1 e h1
      exact k.2.2 (by rw [e1]) (fun h2 => hn ⟨h1, h2⟩)
    · have e1 := h.2.2 e h1
      rw [k.1 e1]; exact e1
theorem Step.iff {a b : By × Bool} {ok ok' : Prop} {x y : By} (h : Step a b ok x) (e : ok ↔ ok') (e2 : x = y) : Step a b ok' y := by
  subst e2; rwa [← propext e]
theorem step_num (two : Bool) (st : By × Bool) (n : Int) : Step st (pnS two st n) (pnB two n = true) (pnE two n) := by
  refine ⟨fun e => ?_, fun e h => ?_, fun e h => ?_⟩
  · unfold pnS; rw [if_pos e]
  · unfold pnS; rw [if_neg (by rw [e]; simp), if_pos h]
  · unfold pnS; rw [if_neg (by rw [e]; simp), if_neg h]
theorem step_text (st : By × Bool) (s : By) : Step st (pnT st s) (s.length < 256) (pT s) := by
  have hb : pnB false (s.length : Int) = true ↔ s.length < 256 := by unfold pnB; simp; omega
  obtain ⟨h1, h2, h3⟩ := step_num false st s.length
  refine ⟨fun e => ?_, fun e h => ?_, fun e h => ?_⟩
  · unfold pnT; rw [h1 e, if_pos e]
  · unfold pnT; rw [h2 e (hb.2 h), if_neg (by simp)]; simp [pnE, pT]
  · have := h3 e (fun k => h (hb.1 k))
    unfold pnT; rw [if_pos this, this]
theorem step_list {α : Type} (f : By × Bool → α → By × Bool) (ok : α → Prop) (p : α → By) (hf : ∀ st c, Step st (f st c) (ok c) (p c)) (l : List α) (st : By × Bool) : Step st (l.foldl f st) (∀ c ∈ l, ok c) (l.flatMap p) := by
  induction l generalizing st with
  | nil => exact ⟨fun _ => rfl, fun e _ => by obtain ⟨a, b⟩ := st; simp only at e; subst e; simp, fun _ h => absurd (by simp) h⟩
  | cons c t ih =>
    exact ((hf st c).then (ih (f st c))).iff (by simp) (by simp)
/-- A change, an act. -/
def wC (st : By × Bool) (c : Chg) : By × Bool := pnL true (pnL false st [c.1]) [c.2.1 + 1, c.2.2 + 1]
def wA4 (x : Act) : By × Bool := pnL false (pnT (pnT (pnL false ([], false) [x.kind]) x.one) x.two) [(x.chs.length : Int)]
def wA (x : Act) : By × Bool := x.chs.foldl wC (wA4 x)
theorem step_C (st : By × Bool) (c : Chg) : Step st (wC st c) (okC c) (pC c) := by
  refine (((step_num false st c.1).then (step_num true _ (c.2.1 + 1))).then (step_num true _ (c.2.2 + 1))).iff ?_ ?_
  · unfold pnB okC; simp; omega
  · unfold pnE pC; simp
theorem wA_step (x : Act) : Step ([], false) (wA x) (okA x) (pA x) := by
  refine (((((step_num false ([], false) x.kind).then (step_text _ x.one)).then (step_text _ x.two)).then (step_num false _ x.chs.length)).then (step_list wC okC pC step_C x.chs _)).iff ?_ ?_
  · unfold pnB okA
    simp only [decide_eq_true_eq, Bool.false_eq_true, if_false]
    constructor
    · rintro ⟨⟨⟨⟨h1, h2⟩, h3⟩, h4⟩, h5⟩
      exact ⟨h1, h2, h3, by omega, h5⟩
    · rintro ⟨h1, h2, h3, h4, h5⟩
      exact ⟨⟨⟨⟨h1, h2⟩, h3⟩, by omega⟩, h5⟩
  · unfold pnE pA; simp [pL]
theorem wA_ok {x : Act} (h : okA x) : wA x = (pA x, false) := by
  have := (wA_step x).2.1 rfl h
  simpa using this
theorem wA_bad {x : Act} (h : ¬ okA x) : (wA x).2 = true := (wA_step x).2.2 rfl h
theorem wC_take (st : By × Bool) (l : List Chg) (k : Nat) (h : k < l.length) : (l.take (k + 1)).foldl wC st = wC ((l.take k).foldl wC st) (l.getD k (0, 0, 0)) := by
  rw [List.take_succ_eq_append_getElem h, List.foldl_append]
  simp [List.getD, h]
theorem wC_len (st : By × Bool) (c : Chg) : (wC st c).1.length ≤ st.1.length + 6 := by
  have h1 := pnL_len true (pnL false st [c.1]) [c.2.1 + 1, c.2.2 + 1]
  have h2 := pnL_len false st [c.1]
  unfold wC
  simp at h1 h2
  omega
theorem wC_all (st : By × Bool) (l : List Chg) : (l.foldl wC st).1.length ≤ st.1.length + 6 * l.length := by
  induction l generalizing st with
  | nil => simp
  | cons c t ih =>
    have h1 := ih (wC st c)
    have h2 := wC_len st c
    rw [List.foldl_cons, List.length_cons]
    omega
/-- It never grows long. -/
theorem wA_len (x : Act) (k : Nat) : ((x.chs.take k).foldl wC (wA4 x)).1.length ≤ 10000 := by
  have h4 : (wA4 x).1.length ≤ 600 := by
    have h1 := pnL_len false (pnT (pnT (pnL false ([], false) [x.kind]) x.one) x.two) [(x.chs.length : Int)]
    have h2 := pnT_len (pnT (pnL false ([], false) [x.kind]) x.one) x.two
    have h3 := pnT_len (pnL false ([], false) [x.kind]) x.one
    have h5 := pnL_len false ([], false) [x.kind]
    unfold wA4
    simp only [List.length_singleton, List.length_nil] at h1 h2 h3 h5 ⊢
    omega
  by_cases ho : (wA4 x).2 = true
  · rw [(step_list wC okC pC step_C (x.chs.take k) (wA4 x)).1 ho]; omega
  · have hs : x.chs.length < 256 := pnS_small (st := pnT (pnT (pnL false ([], false) [x.kind]) x.one) x.two) (by rw [Bool.not_eq_true] at ho; exact ho)
    have h1 := wC_all (wA4 x) (x.chs.take k)
    have h2 : (x.chs.take k).length ≤ x.chs.length := by rw [List.length_take]; omega
    omega
def inI (n : Int) : Prop := -9223372036854775808 ≤ n ∧ n ≤ 9223372036854775807
end Go.Proofs.YtcgpgflnihjpiagGreat.M

/- Texts of bytes. -/
namespace Go.Proofs.YtcgpgflnihjpiagGreat.M
def str (l : By) : ByteArray := ⟨l.toArray⟩
theorem str_size (l : By) : (str l).size = l.length := by simp [str, ByteArray.size]
theorem str_take (l : By) (n : Nat) : (str l).extract 0 n = str (l.take n) := by
  apply ByteArray.ext
  rw [ByteArray.data_extract]
  simp [str]
theorem str_drop (l : By) (n : Nat) (m : Nat) (h : m = l.length) : (str l).extract n m = str (l.drop n) := by
  subst h
  apply ByteArray.ext
  rw [ByteArray.data_extract]
  simp [str]
  exact List.take_of_length_le (by simp)
end Go.Proofs.YtcgpgflnihjpiagGreat.M

/- Numbers in memory, and numbers appended to a row of the call's own. -/
namespace Go.Proofs.YtcgpgflnihjpiagGreat
open Go.RowKit

/-- The slice at a, of n numbers, holds the numbers l. -/
def Ri (w : World) (a : Option Addr) (n : Nat) (l : List Int) : Prop :=
  l.length = n ∧ (n = 0 ∨ ∃ b off, a = some ⟨b, off, none⟩ ∧ b < w.heap.size ∧ ∀ i, i < n → w.cell? ⟨b, off + i, none⟩ = some (.int .i64 (l.getD i 0)))
theorem Ri.below {w w' : World} {a : Option Addr} {n : Nat} {l : List Int} (h : Ri w a n l) {B : Nat} (hb : Below B w w') (hB : w.heap.size ≤ B) : Ri w' a n l := by
  obtain ⟨h1, h2⟩ := h
  refine ⟨h1, ?_⟩
  rcases h2 with h2 | ⟨b, off, ha, hlt, hc⟩
  · exact Or.inl h2
  · refine Or.inr ⟨b, off, ha, Nat.lt_of_lt_of_le hlt hb.size, fun i hi => ?_⟩
    rw [hb.cell (p := ⟨b, off + i, none⟩) (by show b < B; omega)]
    exact hc i hi
theorem Ri.cases {w : World} {a : Option Addr} {n : Nat} {l : List Int} (h : Ri w a n l) : (n = 0 ∧ l = []) ∨ ∃ b off, a = some ⟨b, off, none⟩ ∧ 0 < n ∧ l.length = n ∧ b < w.heap.size ∧ ∀ i, i < n → w.cell? ⟨b, off + i, none⟩ = some (.int .i64 (l.getD i 0)) := by
  obtain ⟨h1, h2⟩ := h
  by_cases hn : n = 0
  · exact Or.inl ⟨hn, List.eq_nil_of_length_eq_zero (by omega)⟩
  · rcases h2 with h2 | ⟨b, off, ha, hlt, hc⟩
    · exact absurd h2 hn
    · exact Or.inr ⟨b, off, ha, by omega, h1, hlt, hc⟩

theorem infoInt : (Tryz.prog.info? 3).map (fun i => (i.zero, i.size, i.bytes)) = some (some (.int .i64 0), 1, 8) := by kernel_rfl
theorem ri_one (w : World) (x : Int) : ∀ i, i < 1 → (w.alloc (.cells #[.int .i64 x] 3)).cell? ⟨w.heap.size, 0 + i, none⟩ = some (.int .i64 (([x] : List Int).getD i 0)) := by
  intro i hi
  obtain rfl : i = 0 := by omega
  simp [go_sem]
theorem ri_two (w : World) (x y : Int) : ∀ i, i < 2 → (w.alloc (.cells #[.int .i64 x, .int .i64 y] 3)).cell? ⟨w.heap.size, 0 + i, none⟩ = some (.int .i64 (([x, y] : List Int).getD i 0)) := by
  intro i hi
  match i, hi with
  | 0, _ => simp [go_sem]
  | 1, _ => simp [go_sem]

/-! ### numbers appended to a row of the call's own -/
def OwnI (w : World) (base : Nat) (v : Value) (l : List Int) : Prop := w.ownsRow base 3 1 v l.length (l.map (Value.int .i64))
theorem OwnI.nil (w : World) (base : Nat) : OwnI w base (.slice none 0 0) [] := World.ownsRow_nil _ _ _ _
theorem OwnI.mono {w : World} {base base' : Nat} {v : Value} {l : List Int} (h : OwnI w base v l) (hb : base' ≤ base) : OwnI w base' v l := by
  obtain ⟨h1, h2⟩ := h
  refine ⟨h1, ?_⟩
  rcases h2 with h2 | ⟨g, cap, cur, hv, hg, r⟩
  · exact Or.inl h2
  · exact Or.inr ⟨g, cap, cur, hv, Nat.le_trans hb hg, r⟩
theorem OwnI.ri {w : World} {base : Nat} {v : Value} {l : List Int} (h : OwnI w base v l) : ∃ a cap, v = .slice a l.length cap ∧ Ri w a l.length l ∧ l.length ≤ cap ∧ cap ≤ maxLen := by
  have h0 := h
  obtain ⟨h1, h2⟩ := h
  rcases h2 with ⟨rfl, hn⟩ | ⟨g, cap, cur, rfl, hb, hh, hc, hm, hs, hx⟩
  · exact ⟨none, 0, by rw [hn], ⟨rfl, Or.inl hn⟩, by omega, by simp [maxLen]⟩
  · refine ⟨_, cap, rfl, ⟨rfl, ?_⟩, hc, hm⟩
    have hlt : g < w.heap.size := (Array.getElem?_eq_some_iff.1 hh).1
    refine Or.inr ⟨g, 0, rfl, hlt, fun i hi => ?_⟩
    rw [World.ownsRow.cellAt h0 (0 + i) (by omega), Nat.zero_add]
    simp [List.getD, hi]
theorem append_ri {w : World} {ops : Array Oper} {rest : List Oper} {o : Oper} {a : Act} {Q : Exit → Act → World → Prop} (hgd : o.guard = none) (s x : Operand)
    (ho : o.op = .call { callee := .builtin .append, args := #[s, x], argTypes := #[24, 24] })
    (base : Nat) (v : Value) (l : List Int) (hs : a.eval s = v) (hown : OwnI w base v l)
    (b m c : Nat) (l2 : List Int) (hx : a.eval x = .slice (some ⟨b, 0, none⟩) m c) (hl2 : l2.length = m) (hc : ∀ i, i < m → w.cell? ⟨b, 0 + i, none⟩ = some (.int .i64 (l2.getD i 0)))
    (hbig : l.length + m ≤ 1000000) (hbase : base ≤ w.heap.size)
    (h : ∀ v' w', OwnI w' base v' (l ++ l2) → Below base w w' → (∀ k, k < w.heap.size → v.ownBlock ≠ some k → w'.heap[k]? = w.heap[k]?) → wpList Tryz.prog ops Q rest (a.put o.dst v') w') : wpList Tryz.prog ops Q (o :: rest) a w := by
  obtain ⟨i0, hi, hz0, hz1, hz2⟩ := info_parts infoInt
  have hnews : ∀ j u, (l2.map (Value.int .i64))[j]? = some u → w.cell? ((⟨b, 0, none⟩ : Addr).add j) = some u := by
    intro j u hj
    have hj2 : j < m := by have := (List.getElem?_eq_some_iff.1 hj).1; simpa [hl2] using this
    rw [Addr.add_lit, hc j hj2, ← hj]
    simp [List.getD, hl2, hj2]
  refine wpList_append_own _ hgd s x 24 ho base 3 i0 (.int .i64 0) 1 8 Tryz.underlying24 hi hz0 hz1 hz2 rfl (by decide) v l.length (l.map (Value.int .i64)) hs hown ⟨b, 0, none⟩ m c (l2.map (Value.int .i64)) hx (by simp [hl2]) hnews (by intro u hu; obtain ⟨y, _, rfl⟩ := List.mem_map.1 hu; rfl)
    (by simp only [maxLen]; omega) (by omega) hbase ?_
  intro v' w' h1 h2 _
  refine h v' w' ?_ ((Below.refl _ _).grown h2 hbase fun k hk => (World.ownsRow.lt hown k hk).1) (fun k hk hne => h2.block k hk (fun e => hne e.symm))
  unfold OwnI
  rw [List.map_append, List.length_append, hl2]
  exact h1
theorem OwnI.below {w w' : World} {base : Nat} {v : Value} {l : List Int} (h : OwnI w base v l) (hb : Below w.heap.size w w') : OwnI w' base v l := by
  obtain ⟨h1, h2⟩ := h
  refine ⟨h1, ?_⟩
  rcases h2 with h2 | ⟨g, cap, cur, hv, hg, hh, r⟩
  · exact Or.inl h2
  · exact Or.inr ⟨g, cap, cur, hv, hg, (hb.block g (Array.getElem?_eq_some_iff.1 hh).1).trans hh, r⟩

end Go.Proofs.YtcgpgflnihjpiagGreat

/- Regions that draw their order and whose last operation writes what the others read: a condition on the world that is kept till that operation. -/
namespace Go.Proofs.YtcgpgflnihjpiagGreat
open Go.RowKit

section
variable {P : Program} {ops : Array Oper} {Q : Exit → Act → World → Prop} {md : Region.Mode} {S : World → Prop} {L : Nat}

/-- Whatever order is picked from here on, and S holds behind every operation but number L. -/
def Till (P : Program) (md : Region.Mode) (ops : Array Oper) (Q : Exit → Act → World → Prop) (S : World → Prop) (L : Nat) : Nat → Array Bool → Act → World → Prop
  | 0, listed, a, w => Region.ready md ops listed = [] ∧ Q .normal a w
  | fuel + 1, listed, a, w =>
    (Region.ready md ops listed = [] → Q .normal a w) ∧
    ∀ i ∈ Region.ready md ops listed, wpOp P ops Q i (fun a' w' => (i ≠ L → listed.getD L true = false → S w') ∧ Till P md ops Q S L fuel (listed.setIfInBounds i true) a' w') a w
theorem wpAny_of_till : ∀ (fuel : Nat) (listed : Array Bool) (a : Act) (w : World), Till P md ops Q S L fuel listed a w → wpAny P md ops Q fuel listed a w
  | 0, _, _, _, h => h
  | fuel + 1, _, _, _, h => ⟨h.1, fun i hi => wpOp_mono (fun a' w' h' => wpAny_of_till fuel _ a' w' h'.2) (h.2 i hi)⟩

/-- Does operation L wait for operation i? -/
def waits (md : Region.Mode) (ops : Array Oper) (L i : Nat) : Bool := match ops[L]? with
  | none => false
  | some o => o.after.any fun e => Region.binds md e && e.on == i

/-- .. or for one that waits for it, and so on. -/
def waitsT (md : Region.Mode) (ops : Array Oper) : Nat → Nat → Nat → Bool
  | 0, L, i => waits md ops L i
  | n + 1, L, i => waits md ops L i || (match ops[L]? with
    | none => false
    | some o => o.after.any fun e => Region.binds md e && waitsT md ops n e.on i)
/-- All for which a listed one waits are listed. -/
def Closed (md : Region.Mode) (ops : Array Oper) (listed : Array Bool) : Prop := ∀ j o, ops[j]? = some o → listed.getD j false = true → ∀ e ∈ o.after, Region.binds md e = true → listed.getD e.on false = true
def closedB (md : Region.Mode) (ops : Array Oper) (listed : Array Bool) : Bool := (List.range ops.size).all fun j => match ops[j]? with
  | none => true
  | some o => !listed.getD j false || o.after.all fun e => !Region.binds md e || listed.getD e.on false
theorem closed_of {listed : Array Bool} (h : closedB md ops listed = true) : Closed md ops listed := by
  intro j o hj hl e he hb
  unfold closedB at h
  rw [List.all_eq_true] at h
  have hlt : j < ops.size := (Array.getElem?_eq_some_iff.1 hj).1
  have h1 := h j (List.mem_range.2 hlt)
  rw [hj] at h1
  simp only [hl, Bool.not_true, Bool.false_or] at h1
  rw [Array.all_eq_true_iff_forall_mem] at h1
  have h2 := h1 e he
  simpa [hb] using h2
theorem Closed.next {listed : Array Bool} (h : Closed md ops listed) {j : Nat} (hj : j ∈ Region.ready md ops listed) : Closed md ops (listed.setIfInBounds j true) := by
  intro k o hk hl e he hb
  by_cases hjk : j = k
  · subst hjk
    obtain ⟨_, oj, hoj, hall⟩ := mem_ready.1 hj
    rw [hk] at hoj
    cases hoj
    exact getD_set_true (hall e he hb)
  · rw [getD_set_ne false hjk] at hl
    exact getD_set_true (h k o hk hl e he hb)
theorem waitsT_not {listed : Array Bool} (hc : Closed md ops listed) {i : Nat} (hi : listed.getD i false = false) : ∀ (n L : Nat), waitsT md ops n L i = true → ∀ o, ops[L]? = some o → ¬ ∀ e ∈ o.after, Region.binds md e = true → listed.getD e.on false = true
  | 0, L, hw, o, ho, hall => by
    unfold waitsT waits at hw
    rw [ho] at hw
    simp only [Array.any_eq_true] at hw
    obtain ⟨x, hx, hb⟩ := hw
    simp only [Bool.and_eq_true, beq_iff_eq] at hb
    have := hall _ (Array.getElem_mem hx) hb.1
    rw [hb.2, hi] at this
    cases this
  | n + 1, L, hw, o, ho, hall => by
    unfold waitsT at hw
    rw [Bool.or_eq_true] at hw
    rcases hw with hw | hw
    · exact waitsT_not hc hi 0 L hw o ho hall
    · rw [ho] at hw
      simp only [Array.any_eq_true] at hw
      obtain ⟨x, hx, hb⟩ := hw
      simp only [Bool.and_eq_true] at hb
      have hl := hall _ (Array.getElem_mem hx) hb.1
      have ⟨o', ho'⟩ : ∃ o', ops[(o.after[x]).on]? = some o' := by
        cases ho' : ops[(o.after[x]).on]? with
        | some o' => exact ⟨o', rfl⟩
        | none =>
          exfalso
          have h2 := hb.2
          cases n with
          | zero => unfold waitsT waits at h2; rw [ho'] at h2; cases h2
          | succ n => unfold waitsT waits at h2; rw [ho'] at h2; cases h2
      exact waitsT_not hc hi n _ hb.2 o' ho' (fun e he hbe => hc _ o' ho' hl e he hbe)

theorem till_first {i : Nat} {oi : Oper} {v : Value} (hi : ops[i]? = some oi) (hiL : i ≠ L) (hw : waitsT md ops 9 L i = true) (hsel : ∀ (j : Nat) (o : Oper) cs b, ops[j]? = some o → o.op ≠ .select cs b)
    (hQ : ∀ c a w, Q (.panic c) (a.put oi.dst v) w → Q (.panic c) a w) :
    ∀ (fuel : Nat) (listed : Array Bool) (a : Act) (w : World),
      (∀ j oj, ops[j]? = some oj → j ≠ i → listed.getD j true = false → (∀ e ∈ oj.after, Region.binds md e = true → e.on ≠ i) → oi.apart ops oj = true) →
      i ∈ Region.ready md ops listed → Closed md ops listed → listed.getD L true = false → YieldsIf P ops S oi v a → S w →
      Till P md ops Q S L fuel (listed.setIfInBounds i true) (a.put oi.dst v) w → Till P md ops Q S L (fuel + 1) listed a w := by
  intro fuel
  induction fuel with
  | zero =>
    intro listed a w _ hr _ _ hy hS H
    refine ⟨fun h => (by rw [h] at hr; cases hr), fun j hj => ?_⟩
    by_cases hji : j = i
    · subst hji; exact hy.wpOp hi hS ⟨fun _ _ => hS, H⟩
    · have := ready_mono hj hji
      rw [H.1] at this
      cases this
  | succ fuel ih =>
    intro listed a w hfree hr hcl hLu hy hS H
    refine ⟨fun h => (by rw [h] at hr; cases hr), fun j hj => ?_⟩
    by_cases hji : j = i
    · subst hji; exact hy.wpOp hi hS ⟨fun _ _ => hS, H⟩
    · have h1 := H.2 j (ready_mono hj hji)
      obtain ⟨hjun, oj, hoj, hall⟩ := mem_ready.1 hj
      have hnot : ∀ e ∈ oj.after, Region.binds md e = true → e.on ≠ i := fun e he hb heq => by
        have h1 := hall e he hb
        have h0 := (mem_ready.1 hr).1
        rw [heq] at h1
        rcases Nat.lt_or_ge i listed.size with h' | h'
        · simp [h'] at h0 h1; rw [h0] at h1; cases h1
        · simp [Array.getElem?_eq_none h'] at h1
      have hiu : listed.getD i false = false := by
        have h0 := (mem_ready.1 hr).1
        rcases Nat.lt_or_ge i listed.size with h' | h'
        · simp [h'] at h0 ⊢; exact h0
        · simp [Array.getElem?_eq_none h'] at h0
      have hjL : j ≠ L := by
        intro e
        subst e
        exact waitsT_not hcl hiu 9 j hw oj hoj hall
      have h2 := wpOp_putIf hoj (hfree j oj hoj hji hjun hnot) (fun cs b => hsel i oi cs b hi) (fun cs b => hsel j oj cs b hoj) hQ hy h1
      have hfree' : ∀ k ok, ops[k]? = some ok → k ≠ i → (listed.setIfInBounds j true).getD k true = false →
          (∀ e ∈ ok.after, Region.binds md e = true → e.on ≠ i) → oi.apart ops ok = true := fun k ok hk hki hun hno => by
        refine hfree k ok hk hki ?_ hno
        by_cases hjk : j = k
        · subst hjk; exact hjun
        · rw [getD_set_ne true hjk] at hun; exact hun
      have hLi : (listed.setIfInBounds i true).getD L true = false := by rw [getD_set_ne true hiL]; exact hLu
      have hLj : (listed.setIfInBounds j true).getD L true = false := by rw [getD_set_ne true hjL]; exact hLu
      refine wpOp_mono (fun a' w' h3 => ⟨fun hjL _ => h3.2.1 hjL hLi, ih (listed.setIfInBounds j true) a' w' hfree' (ready_mono hr (Ne.symm hji)) (hcl.next hj) hLj h3.1 (h3.2.1 hjL hLi) ?_⟩) h2
      rw [Array.setIfInBounds_comm _ _ hji]
      exact h3.2.2
/-- .. where it looks at no memory. -/
theorem till_pure {i : Nat} {oi : Oper} {v : Value} (hi : ops[i]? = some oi) (hiL : i ≠ L) (hsel : ∀ (j : Nat) (o : Oper) cs b, ops[j]? = some o → o.op ≠ .select cs b)
    (hQ : ∀ c a w, Q (.panic c) (a.put oi.dst v) w → Q (.panic c) a w) :
    ∀ (fuel : Nat) (listed : Array Bool) (a : Act) (w : World),
      (∀ j oj, ops[j]? = some oj → j ≠ i → listed.getD j true = false → (∀ e ∈ oj.after, Region.binds md e = true → e.on ≠ i) → oi.apart ops oj = true) →
      i ∈ Region.ready md ops listed → YieldsIf P ops (fun _ => True) oi v a → (listed.getD L true = false → S w) →
      Till P md ops Q S L fuel (listed.setIfInBounds i true) (a.put oi.dst v) w → Till P md ops Q S L (fuel + 1) listed a w := by
  intro fuel
  induction fuel with
  | zero =>
    intro listed a w _ hr hy hS H
    refine ⟨fun h => (by rw [h] at hr; cases hr), fun j hj => ?_⟩
    by_cases hji : j = i
    · subst hji; exact hy.wpOp hi trivial ⟨fun _ h => hS h, H⟩
    · have := ready_mono hj hji
      rw [H.1] at this
      cases this
  | succ fuel ih =>
    intro listed a w hfree hr hy hS H
    refine ⟨fun h => (by rw [h] at hr; cases hr), fun j hj => ?_⟩
    by_cases hji : j = i
    · subst hji; exact hy.wpOp hi trivial ⟨fun _ h => hS h, H⟩
    · have h1 := H.2 j (ready_mono hj hji)
      obtain ⟨hjun, oj, hoj, hall⟩ := mem_ready.1 hj
      have hnot : ∀ e ∈ oj.after, Region.binds md e = true → e.on ≠ i := fun e he hb heq => by
        have h1 := hall e he hb
        have h0 := (mem_ready.1 hr).1
        rw [heq] at h1
        rcases Nat.lt_or_ge i listed.size with h' | h'
        · simp [h'] at h0 h1; rw [h0] at h1; cases h1
        · simp [Array.getElem?_eq_none h'] at h1
      have h2 := wpOp_putIf hoj (hfree j oj hoj hji hjun hnot) (fun cs b => hsel i oi cs b hi) (fun cs b => hsel j oj cs b hoj) hQ hy h1
      have hfree' : ∀ k ok, ops[k]? = some ok → k ≠ i → (listed.setIfInBounds j true).getD k true = false →
          (∀ e ∈ ok.after, Region.binds md e = true → e.on ≠ i) → oi.apart ops ok = true := fun k ok hk hki hun hno => by
        refine hfree k ok hk hki ?_ hno
        by_cases hjk : j = k
        · subst hjk; exact hjun
        · rw [getD_set_ne true hjk] at hun; exact hun
      have hLi : listed.getD L true = false → (listed.setIfInBounds i true).getD L true = false := fun h => by rw [getD_set_ne true hiL]; exact h
      refine wpOp_mono (fun a' w' h3 => ⟨fun hjL hu => h3.2.1 hjL (hLi hu), ih (listed.setIfInBounds j true) a' w' hfree' (ready_mono hr (Ne.symm hji)) h3.1 (fun hu => ?_) ?_⟩) h2
      · by_cases hjL : j = L
        · subst hjL
          rcases Nat.lt_or_ge j listed.size with h' | h'
          · simp [h'] at hu
          · simp [Array.getElem?_eq_none h'] at hjun
        · exact h3.2.1 hjL (hLi (by rw [getD_set_ne true hjL] at hu; exact hu))
      · rw [Array.setIfInBounds_comm _ _ hji]
        exact h3.2.2

/-- Take number i first. -/
theorem till_take (i : Nat) {oi : Oper} {v : Value} {fuel : Nat} {listed : Array Bool} {a : Act} {w : World} (hi : ops[i]? = some oi) (hiL : i ≠ L) (hw : (waitsT md ops 9 L i && closedB md ops listed) = true)
    (hs : Region.noSelect ops = true) (hf : Region.free md ops listed i = true) (hr : (Region.ready md ops listed).contains i = true) (hu : listed.getD L true = false)
    (hQ : ∀ c a w, Q (.panic c) (a.put oi.dst v) w → Q (.panic c) a w) (hy : YieldsIf P ops S oi v a) (hS : S w)
    (h : Till P md ops Q S L fuel (listed.setIfInBounds i true) (a.put oi.dst v) w) : Till P md ops Q S L (fuel + 1) listed a w :=
  till_first hi hiL (by simp only [Bool.and_eq_true] at hw; exact hw.1) (Region.noSelect_spec hs) hQ fuel listed a w (Region.free_spec hi hf) (by simpa using hr) (closed_of (by simp only [Bool.and_eq_true] at hw; exact hw.2)) hu hy hS h
/-- .. one that looks at no memory. -/
theorem till_go (i : Nat) {oi : Oper} {v : Value} {fuel : Nat} {listed : Array Bool} {a : Act} {w : World} (hi : ops[i]? = some oi) (hiL : i ≠ L)
    (hs : Region.noSelect ops = true) (hf : Region.free md ops listed i = true) (hr : (Region.ready md ops listed).contains i = true)
    (hQ : ∀ c a w, Q (.panic c) (a.put oi.dst v) w → Q (.panic c) a w) (hy : YieldsIf P ops (fun _ => True) oi v a) (hS : S w)
    (h : Till P md ops Q S L fuel (listed.setIfInBounds i true) (a.put oi.dst v) w) : Till P md ops Q S L (fuel + 1) listed a w :=
  till_pure hi hiL (Region.noSelect_spec hs) hQ fuel listed a w (Region.free_spec hi hf) (by simpa using hr) hy (fun _ => hS) h
/-- One alone may come up. -/
theorem till_step (i : Nat) {o : Oper} {fuel : Nat} {listed : Array Bool} {a : Act} {w : World} (ho : ops[i]? = some o) (hiL : i ≠ L) (hr : Region.ready md ops listed = [i])
    (h : ∀ K' : Act → World → Prop, Shut (∀ a w, S w → (S w → Till P md ops Q S L fuel (listed.setIfInBounds i true) a w) → K' a w) → if Region.wanted o (yielded ops a.tmps) = true then Oper.wp P o a w K' Q else K' (a.put o.dst undef) w) :
    Till P md ops Q S L (fuel + 1) listed a w := by
  refine ⟨fun e => (by rw [hr] at e; cases e), fun j hj => ?_⟩
  rw [hr] at hj
  obtain rfl : j = i := by simpa using hj
  exact wpOp_step ho (fun K' hK => h K' (fun a w hS hW => hK a w ⟨fun _ _ => hS, hW hS⟩))
/-- The last one. -/
theorem till_last {o : Oper} {listed : Array Bool} {a : Act} {w : World} (ho : ops[L]? = some o) (hr : Region.ready md ops listed = [L]) (hd : Region.ready md ops (listed.setIfInBounds L true) = [])
    (h : ∀ K' : Act → World → Prop, Shut (∀ a w, Q .normal a w → K' a w) → if Region.wanted o (yielded ops a.tmps) = true then Oper.wp P o a w K' Q else K' (a.put o.dst undef) w) (fuel : Nat) :
    Till P md ops Q S L (fuel + 1) listed a w := by
  refine ⟨fun e => (by rw [hr] at e; cases e), fun j hj => ?_⟩
  rw [hr] at hj
  obtain rfl : j = L := by simpa using hj
  refine wpOp_step ho (fun K' hK => h K' (fun a w hQ => hK a w ⟨fun e => absurd rfl e, ?_⟩))
  cases fuel with
  | zero => exact ⟨hd, hQ⟩
  | succ f => exact ⟨fun _ => hQ, by rw [hd]; simp⟩
/-- The beginning. -/
theorem wp_region_till (L : Nat) (S : World → Prop) {id : Nat} {a : Act} {w : World} (hm : P.follows .mixedOrders = true) (hS : S w.drew)
    (h : S w.drew → Till P .any ops Q S L ops.size (Array.replicate ops.size false) a w.drew) : (Code.region id ops true).wp P Q a w :=
  wp_region_any hm (wpAny_of_till _ _ _ _ (h hS))
end
end Go.Proofs.YtcgpgflnihjpiagGreat

/- Heads in memory; slices.IndexFunc, slices.ContainsFunc at heads. -/
namespace Go.Proofs.YtcgpgflnihjpiagGreat
open Go.RowKit

/-- The slice at a, of n heads, holds the heads H. -/
def Hs (w : World) (a : Option Addr) (n : Nat) (H : List M.Hd) : Prop :=
  H.length = n ∧ (n = 0 ∨ ∃ b off, a = some ⟨b, off, none⟩ ∧ b < w.heap.size ∧ ∀ i, i < n → w.cell? ⟨b, off + i * 2, none⟩ = some (.string (H.getD i M.hd0).1) ∧ w.cell? ⟨b, off + i * 2 + 1, none⟩ = some (.int .i64 (H.getD i M.hd0).2) ∧ (H.getD i M.hd0).1.size ≤ 9223372036854775807)
theorem Hs.below {w w' : World} {a : Option Addr} {n : Nat} {H : List M.Hd} (h : Hs w a n H) {B : Nat} (hb : Below B w w') (hB : w.heap.size ≤ B) : Hs w' a n H := by
  obtain ⟨h1, h2⟩ := h
  refine ⟨h1, ?_⟩
  rcases h2 with h2 | ⟨b, off, ha, hlt, hc⟩
  · exact Or.inl h2
  · refine Or.inr ⟨b, off, ha, Nat.lt_of_lt_of_le hlt hb.size, fun i hi => ?_⟩
    rw [hb.cell (p := ⟨b, off + i * 2, none⟩) (by show b < B; omega), hb.cell (p := ⟨b, off + i * 2 + 1, none⟩) (by show b < B; omega)]
    exact hc i hi
theorem Hs.cases {w : World} {a : Option Addr} {n : Nat} {H : List M.Hd} (h : Hs w a n H) : (n = 0 ∧ H = []) ∨ ∃ b off, a = some ⟨b, off, none⟩ ∧ 0 < n ∧ H.length = n ∧ b < w.heap.size ∧ ∀ i, i < n → w.cell? ⟨b, off + i * 2, none⟩ = some (.string (H.getD i M.hd0).1) ∧ w.cell? ⟨b, off + i * 2 + 1, none⟩ = some (.int .i64 (H.getD i M.hd0).2) ∧ (H.getD i M.hd0).1.size ≤ 9223372036854775807 := by
  obtain ⟨h1, h2⟩ := h
  by_cases hn : n = 0
  · exact Or.inl ⟨hn, List.eq_nil_of_length_eq_zero (by omega)⟩
  · rcases h2 with h2 | ⟨b, off, ha, hlt, hc⟩
    · exact absurd h2 hn
    · exact Or.inr ⟨b, off, ha, by omega, h1, hlt, hc⟩
theorem Hs.small {w : World} {a : Option Addr} {n : Nat} {H : List M.Hd} (h : Hs w a n H) : ∀ x ∈ H, x.1.size ≤ 9223372036854775807 := by
  intro x hx
  obtain ⟨i, hi, e⟩ := List.getElem_of_mem hx
  rcases h.cases with ⟨_, rfl⟩ | ⟨b, off, _, _, hl, _, hc⟩
  · simp at hi
  · have := (hc i (by omega)).2.2
    rw [show H.getD i M.hd0 = x by simp [List.getD, hi, e]] at this
    exact this

/-- What is asked of a function of heads that is handed on. -/
def Asks (g : Nat) (cs : List Value) (p : M.Hd → Bool) (H : List M.Hd) (w : World) : Prop :=
  ∀ W x, x ∈ H → Below w.heap.size w W → Calls Tryz.prog g (.agg #[.string x.1, .int .i64 x.2] :: cs).toArray W fun e w' => e = .returned (.bool (p x)) ∧ Below W.heap.size W w'

theorem index_none (fn : Value) (a : Option Addr) (cap : Nat) (w : World) :
    Calls Tryz.prog 59 #[.slice a 0 cap, fn] w fun e w' => e = .returned (.int .i64 (-1)) ∧ w' = w := by
  go_enter Tryz.func59, Tryz.ntmps59
  go_wp2
  refine wp_loop_rounds 1 ?_
  rw [rounds_succ]
  go_wp2
  go_ret
  exact ⟨rfl, rfl⟩

set_option maxHeartbeats 2000000 in
theorem index_some (g : Nat) (cs : List Value) (eg : ∀ args w, (callFunc g args).run Tryz.prog w = .ok (.enter g args) w) (p : M.Hd → Bool) (b off n cap : Nat) (H : List M.Hd) (w : World) (hm : n ≤ 9223372036854775807) (hl : H.length = n) (hB : b < w.heap.size)
    (hc : ∀ i, i < n → w.cell? ⟨b, off + i * 2, none⟩ = some (.string (H.getD i M.hd0).1) ∧ w.cell? ⟨b, off + i * 2 + 1, none⟩ = some (.int .i64 (H.getD i M.hd0).2) ∧ (H.getD i M.hd0).1.size ≤ 9223372036854775807) (hp : Asks g cs p H w) :
    Calls Tryz.prog 59 #[.slice (some ⟨b, off, none⟩) n cap, .func (.func g) #[] cs.toArray] w fun e w' => e = .returned (.int .i64 (M.idxF p H 0)) ∧ Below w.heap.size w w' := by
  have HC : Aside (∀ i, i < n → w.cell? ⟨b, off + i * 2, none⟩ = some (.string (H.getD i M.hd0).1) ∧ w.cell? ⟨b, off + i * 2 + 1, none⟩ = some (.int .i64 (H.getD i M.hd0).2) ∧ (H.getD i M.hd0).1.size ≤ 9223372036854775807) := hc
  have HL : Aside (H.length = n) := hl
  have HP : Aside (Asks g cs p H w) := hp
  clear hc hl hp
  go_enter Tryz.func59, Tryz.ntmps59
  go_wp2
  go_loopg [8] n (fun g i wr => ∃ (k : Nat), k + g = n ∧ i = .int .i64 k ∧ Below w.heap.size w wr ∧ Aside (M.idxF p (H.drop k) k = M.idxF p H 0))
  case atStart => exact ⟨0, by omega, rfl, Below.refl _ _, by simp [Aside]⟩
  case round =>
    obtain ⟨k, hk, rfl, hbel, A⟩ := hrel
    by_cases hlt : k < n
    · obtain ⟨x, hx⟩ : ∃ x, H.getD k M.hd0 = x := ⟨_, rfl⟩
      have c0 : wr.cell? ⟨b, off + k * 2, none⟩ = some (.string x.1) := by rw [hbel.cell (p := ⟨b, off + k * 2, none⟩) hB, (HC.out k hlt).1, hx]
      have c1 : wr.cell? ⟨b, off + k * 2 + 1, none⟩ = some (.int .i64 x.2) := by rw [hbel.cell (p := ⟨b, off + k * 2 + 1, none⟩) hB, (HC.out k hlt).2.1, hx]
      have hmem : x ∈ H := by rw [← hx]; have := HL.out; simp [List.getD, this, hlt]
      have LH : Hid (Calls Tryz.prog g (.agg #[.string x.1, .int .i64 x.2] :: cs).toArray wr fun e w' => e = .returned (.bool (p x)) ∧ Below wr.heap.size wr w') := HP.out wr x hmem hbel
      have HX : Aside (H.getD k M.hd0 = x) := hx
      obtain ⟨t, ht⟩ : ∃ t, p x = t := ⟨_, rfl⟩
      rw [ht] at LH
      have HT : Aside (p x = t) := ht
      have hki : (k : Int) < (n : Int) := by omega
      clear hx ht hmem
      cases t with
      | true =>
        go_wp2_with fail
        refine LH.out.mono ?_
        rintro e w1 ⟨rfl, hb1⟩
        go_wp2
        go_ret
        exact ⟨ret_int (by rw [← A.out, M.idxF_yes p H k M.hd0 (by rw [HL.out]; exact hlt) (by rw [HX.out]; exact HT.out)]), hbel.trans (hb1.mono hbel.size)⟩
      | false =>
        go_wp2_with fail
        refine LH.out.mono ?_
        rintro e w1 ⟨rfl, hb1⟩
        go_wp2
        go_roundg (gk - 1)
        case measure => omega
        case rel => exact ⟨k + 1, by omega, by go_num, hbel.trans (hb1.mono hbel.size), by unfold Aside; rw [← A.out, M.idxF_no p H k M.hd0 (by rw [HL.out]; exact hlt) (by rw [HX.out]; exact HT.out)]⟩
    · go_wp2
      go_ret
      exact ⟨ret_int (by rw [← A.out, M.idxF_end p H k (by rw [HL.out]; omega)]), hbel⟩
theorem index_any (g : Nat) (cs : List Value) (eg : ∀ args w, (callFunc g args).run Tryz.prog w = .ok (.enter g args) w) (p : M.Hd → Bool) (a : Option Addr) (n cap : Nat) (H : List M.Hd) (w : World) (h : Hs w a n H) (hm : n ≤ 9223372036854775807) (hp : Asks g cs p H w) :
    Calls Tryz.prog 59 #[.slice a n cap, .func (.func g) #[] cs.toArray] w fun e w' => e = .returned (.int .i64 (M.idxF p H 0)) ∧ Below w.heap.size w w' := by
  rcases h.cases with ⟨rfl, rfl⟩ | ⟨b, off, rfl, hn, hl, hB, hc⟩
  · refine (index_none _ a cap w).mono ?_
    rintro e w' ⟨rfl, rfl⟩
    exact ⟨rfl, Below.refl _ _⟩
  · exact index_some g cs eg p b off n cap H w hm hl hB hc hp
theorem hcontains_any (g : Nat) (cs : List Value) (eg : ∀ args w, (callFunc g args).run Tryz.prog w = .ok (.enter g args) w) (p : M.Hd → Bool) (a : Option Addr) (n cap : Nat) (H : List M.Hd) (w : World) (h : Hs w a n H) (hm : n ≤ 9223372036854775807) (hp : Asks g cs p H w) :
    Calls Tryz.prog 30 #[.slice a n cap, .func (.func g) #[] cs.toArray] w fun e w' => e = .returned (.bool (H.any p)) ∧ Below w.heap.size w w' := by
  have H1 : Hid (Calls Tryz.prog 59 #[.slice a n cap, .func (.func g) #[] cs.toArray] w fun e w' => e = .returned (.int .i64 (M.idxF p H 0)) ∧ Below w.heap.size w w') := index_any g cs eg p a n cap H w h hm hp
  obtain ⟨r, hr⟩ : ∃ r, M.idxF p H 0 = r := ⟨_, rfl⟩
  have h2 := M.idxF_neg p H 0
  rw [hr] at h2 H1
  have H2 : Hid (0 ≤ r ↔ H.any p = true) := h2
  clear hr h2 hp h
  go_enter Tryz.func30, Tryz.ntmps30
  go_wp2_with fail
  refine H1.out.mono ?_
  rintro e w' ⟨rfl, hb⟩
  go_wp2
  go_ret
  refine ⟨ret_bool ?_, hb⟩
  rw [Bool.eq_iff_iff, ← H2.out]
  simp
end Go.Proofs.YtcgpgflnihjpiagGreat

/- Numbers and commits in memory; dag.parentsRight, dag.Check. -/
namespace Go.Proofs.YtcgpgflnihjpiagGreat
open Go.RowKit

/-- Commits lie in memory as L. -/
def Cm (w : World) (a : Option Addr) (n : Nat) (L : List M.Com) : Prop :=
  L.length = n ∧ (n = 0 ∨ ∃ b off, a = some ⟨b, off, none⟩ ∧ b < w.heap.size ∧ ∀ i, i < n → ∃ a1 n1 c1 a2 n2 c2, w.cell? ⟨b, off + i * 2, none⟩ = some (.slice a1 n1 c1) ∧ w.cell? ⟨b, off + i * 2 + 1, none⟩ = some (.slice a2 n2 c2) ∧ Rd w a1 n1 (L.getD i ([], [])).1 ∧ Ri w a2 n2 (L.getD i ([], [])).2 ∧ n1 ≤ 9223372036854775807 ∧ n2 ≤ 9223372036854775807)
theorem Cm.below {w w' : World} {a : Option Addr} {n : Nat} {L : List M.Com} (h : Cm w a n L) {B : Nat} (hb : Below B w w') (hB : w.heap.size ≤ B) : Cm w' a n L := by
  obtain ⟨h1, h2⟩ := h
  refine ⟨h1, ?_⟩
  rcases h2 with h2 | ⟨b, off, ha, hlt, hc⟩
  · exact Or.inl h2
  · refine Or.inr ⟨b, off, ha, Nat.lt_of_lt_of_le hlt hb.size, fun i hi => ?_⟩
    obtain ⟨a1, n1, c1, a2, n2, c2, k1, k2, k3, k4, k5⟩ := hc i hi
    exact ⟨a1, n1, c1, a2, n2, c2, (hb.cell (p := ⟨b, off + i * 2, none⟩) (by show b < B; omega)).trans k1, (hb.cell (p := ⟨b, off + i * 2 + 1, none⟩) (by show b < B; omega)).trans k2, k3.below hb hB, k4.below hb hB, k5⟩
theorem Cm.cases {w : World} {a : Option Addr} {n : Nat} {L : List M.Com} (h : Cm w a n L) : (n = 0 ∧ L = []) ∨ ∃ b off, a = some ⟨b, off, none⟩ ∧ 0 < n ∧ L.length = n ∧ b < w.heap.size ∧ ∀ i, i < n → ∃ a1 n1 c1 a2 n2 c2, w.cell? ⟨b, off + i * 2, none⟩ = some (.slice a1 n1 c1) ∧ w.cell? ⟨b, off + i * 2 + 1, none⟩ = some (.slice a2 n2 c2) ∧ Rd w a1 n1 (L.getD i ([], [])).1 ∧ Ri w a2 n2 (L.getD i ([], [])).2 ∧ n1 ≤ 9223372036854775807 ∧ n2 ≤ 9223372036854775807 := by
  obtain ⟨h1, h2⟩ := h
  by_cases hn : n = 0
  · exact Or.inl ⟨hn, List.eq_nil_of_length_eq_zero (by omega)⟩
  · rcases h2 with h2 | ⟨b, off, ha, hlt, hc⟩
    · exact absurd h2 hn
    · exact Or.inr ⟨b, off, ha, by omega, h1, hlt, hc⟩

/-! ### parentsRight -/
theorem right_many (a : Option Addr) (n cap : Nat) (k : Int) (w : World) (h : 2 < n) (hm : n ≤ 9223372036854775807) :
    Calls Tryz.prog 58 #[.slice a n cap, .int .i64 k] w fun e w' => e = .returned (.bool false) ∧ w' = w := by
  go_enter Tryz.func58, Tryz.ntmps58
  go_wp2
  go_ret
  exact ⟨rfl, rfl⟩
theorem right_none (a : Option Addr) (cap : Nat) (k : Int) (w : World) :
    Calls Tryz.prog 58 #[.slice a 0 cap, .int .i64 k] w fun e w' => e = .returned (.bool true) ∧ w' = w := by
  go_enter Tryz.func58, Tryz.ntmps58
  go_wp2
  refine wp_loop_rounds 1 ?_
  rw [rounds_succ]
  go_wp2
  go_ret
  exact ⟨rfl, rfl⟩
set_option maxHeartbeats 1000000 in
theorem right_some (b off n cap : Nat) (l : List Int) (c : Nat) (w : World) (hn : n ≤ 2) (hl : l.length = n) (hc : ∀ i, i < n → w.cell? ⟨b, off + i, none⟩ = some (.int .i64 (l.getD i 0))) :
    Calls Tryz.prog 58 #[.slice (some ⟨b, off, none⟩) n cap, .int .i64 c] w fun e w' => e = .returned (.bool (M.ris c (-1) l)) ∧ w' = w := by
  have HC : Aside (∀ i, i < n → w.cell? ⟨b, off + i, none⟩ = some (.int .i64 (l.getD i 0))) := hc
  have HL : Aside (l.length = n) := hl
  clear hc hl
  go_enter Tryz.func58, Tryz.ntmps58
  go_wp2
  go_loopg [5, 13] n (fun g ah i wr => ∃ (k : Nat) (q : Int), k + g = n ∧ i = .int .i64 k ∧ ah = .int .i64 q ∧ wr = w ∧ Aside (M.ris c q (l.drop k) = M.ris c (-1) l))
  case atStart => exact ⟨0, -1, by omega, rfl, rfl, rfl, by simp [Aside]⟩
  case round =>
    obtain ⟨k, q, hk, rfl, rfl, rfl, A⟩ := hrel
    by_cases hlt : k < n
    · obtain ⟨x, hx⟩ : ∃ x, l.getD k 0 = x := ⟨_, rfl⟩
      have c0 := HC.out k hlt
      rw [hx] at c0
      have HX : Aside (l.getD k 0 = x) := hx
      clear hx
      go_wp2
      all_goals first
        | (go_ret
           exact ⟨ret_bool (A.out.symm.trans (M.ris_bad c q l k (by rw [HL.out]; exact hlt) x HX.out (by omega))).symm, rfl⟩)
        | (go_roundg (gk - 1)
           case measure => omega
           case rel => exact ⟨k + 1, x, by omega, by go_num, rfl, rfl, by unfold Aside; rw [← A.out, M.ris_good c q l k (by rw [HL.out]; exact hlt) x HX.out (by omega) (by omega)]⟩)
    · go_wp2
      go_ret
      exact ⟨ret_bool (A.out.symm.trans (M.ris_end c q l k (by rw [HL.out]; omega))).symm, rfl⟩
theorem right_any (a : Option Addr) (n cap : Nat) (l : List Int) (c : Nat) (w : World) (h : Ri w a n l) (hm : n ≤ 9223372036854775807) :
    Calls Tryz.prog 58 #[.slice a n cap, .int .i64 c] w fun e w' => e = .returned (.bool (M.pr c l)) ∧ w' = w := by
  by_cases h2 : 2 < n
  · rw [M.pr_long c l (by rw [h.1]; exact h2)]
    exact right_many a n cap c w h2 hm
  · rw [M.pr_short c l (by rw [h.1]; omega)]
    rcases h.cases with ⟨rfl, rfl⟩ | ⟨b, off, rfl, hn, hl, hB, hc⟩
    · exact right_none a cap c w
    · exact right_some b off n cap l c w (by omega) hl hc

/-! ### dag.Check -/
theorem dcheck_many (a : Option Addr) (n cap : Nat) (w : World) (h : 14 < n) (hm : n ≤ 9223372036854775807) :
    Calls Tryz.prog 29 #[.slice a n cap] w fun e w' => e = .returned (.int .i64 2) ∧ w' = w := by
  go_enter Tryz.func29, Tryz.ntmps29
  go_wp2
  go_ret
  exact ⟨rfl, rfl⟩
theorem dcheck_none (a : Option Addr) (cap : Nat) (w : World) :
    Calls Tryz.prog 29 #[.slice a 0 cap] w fun e w' => e = .returned (.int .i64 0) ∧ w' = w := by
  go_enter Tryz.func29, Tryz.ntmps29
  go_wp2
  refine wp_loop_rounds 1 ?_
  rw [rounds_succ]
  go_wp2
  go_ret
  exact ⟨rfl, rfl⟩

set_option maxHeartbeats 4000000 in
theorem dcheck_some (b off n cap : Nat) (L : List M.Com) (w : World) (hn : n ≤ 14) (hl : L.length = n) (hB : b < w.heap.size)
    (hc : ∀ i, i < n → ∃ a1 n1 c1 a2 n2 c2, w.cell? ⟨b, off + i * 2, none⟩ = some (.slice a1 n1 c1) ∧ w.cell? ⟨b, off + i * 2 + 1, none⟩ = some (.slice a2 n2 c2) ∧ Rd w a1 n1 (L.getD i ([], [])).1 ∧ Ri w a2 n2 (L.getD i ([], [])).2 ∧ n1 ≤ 9223372036854775807 ∧ n2 ≤ 9223372036854775807) :
    Calls Tryz.prog 29 #[.slice (some ⟨b, off, none⟩) n cap] w fun e w' => e = .returned (.int .i64 (M.dchkF 0 L)) ∧ Below w.heap.size w w' := by
  have HC : Aside (∀ i, i < n → ∃ a1 n1 c1 a2 n2 c2, w.cell? ⟨b, off + i * 2, none⟩ = some (.slice a1 n1 c1) ∧ w.cell? ⟨b, off + i * 2 + 1, none⟩ = some (.slice a2 n2 c2) ∧ Rd w a1 n1 (L.getD i ([], [])).1 ∧ Ri w a2 n2 (L.getD i ([], [])).2 ∧ n1 ≤ 9223372036854775807 ∧ n2 ≤ 9223372036854775807) := hc
  have HL : Aside (L.length = n) := hl
  clear hc hl
  go_enter Tryz.func29, Tryz.ntmps29
  go_wp2
  go_loopg [11] n (fun g i wr => ∃ (k : Nat), k + g = n ∧ i = .int .i64 k ∧ Below w.heap.size w wr ∧ Aside (M.dchkF k (L.drop k) = M.dchkF 0 L))
  case atStart => exact ⟨0, by omega, rfl, Below.refl _ _, by simp [Aside]⟩
  case round =>
    obtain ⟨k, hk, rfl, hbel, A⟩ := hrel
    have hsz := hbel.size
    by_cases hlt : k < n
    · obtain ⟨a1, n1, c1, a2, n2, c2, q1, q2, r1, r2, m1, m2⟩ := HC.out k hlt
      obtain ⟨C, hC⟩ : ∃ C, L.getD k ([], []) = C := ⟨_, rfl⟩
      rw [hC] at r1 r2
      have c0 : wr.cell? ⟨b, off + k * 2, none⟩ = some (.slice a1 n1 c1) := (hbel.cell (p := ⟨b, off + k * 2, none⟩) hB).trans q1
      have c1' : wr.cell? ⟨b, off + k * 2 + 1, none⟩ = some (.slice a2 n2 c2) := (hbel.cell (p := ⟨b, off + k * 2 + 1, none⟩) hB).trans q2
      obtain ⟨Wa, hWa⟩ : ∃ Wa, Wa = wr.alloc (.cells #[.slice a1 n1 c1, .slice a2 n2 c2] 54) := ⟨_, rfl⟩
      have hba : Below w.heap.size w Wa := by rw [hWa]; exact hbel.alloc hsz _
      have q5 : Wa.cell? ⟨wr.heap.size, 1, none⟩ = some (.slice a2 n2 c2) := by rw [hWa]; simp [go_sem]
      have hWs : wr.heap.size < Wa.heap.size := by rw [hWa]; simp
      have HCh := check_any a1 n1 c1 C.1 Wa (r1.below hba (Nat.le_refl _)) m1
      have HX : Aside (L.getD k ([], []) = C) := hC
      have HWa : Hid (Wa = wr.alloc (.cells #[.slice a1 n1 c1, .slice a2 n2 c2] 54)) := hWa
      have H2 : Hid (Ri w a2 n2 C.2) := r2
      have HBA : Hid (Below w.heap.size w Wa) := hba
      have Q5 : Hid (Wa.cell? ⟨wr.heap.size, 1, none⟩ = some (.slice a2 n2 c2)) := q5
      clear hC hWa q5 hba r1 r2 q1 q2
      obtain ⟨e1, he1⟩ : ∃ e1, e1 = M.chk C.1 := ⟨_, rfl⟩
      rw [← he1] at HCh
      have HE1 : Hid (e1 = M.chk C.1) := he1
      have HH : Hid (Calls Tryz.prog 47 #[.slice a1 n1 c1] Wa fun e w' => e = .returned (.int .i64 e1) ∧ Below Wa.heap.size Wa w') := HCh
      clear he1 HCh
      by_cases hz : e1 = 0
      · have hne : (e1 != 0) = false := by simp [hz]
        have HZ : Hid (e1 = 0) := hz
        clear hz
        go_wp2_with fail
        rw [← HWa.out]
        refine HH.out.mono ?_
        rintro e w1 ⟨rfl, hb1⟩
        have q6 : w1.cell? ⟨wr.heap.size, 1, none⟩ = some (.slice a2 n2 c2) := (hb1.cell (p := ⟨wr.heap.size, 1, none⟩) hWs).trans Q5.out
        have hb2 : Below w.heap.size w w1 := HBA.out.trans (hb1.mono HBA.out.size)
        have HP := right_any a2 n2 c2 C.2 k w1 (H2.out.below hb2 (Nat.le_refl _)) m2
        obtain ⟨t, ht⟩ : ∃ t, t = M.pr k C.2 := ⟨_, rfl⟩
        rw [← ht] at HP
        have HT : Hid (t = M.pr k C.2) := ht
        have HPP : Hid (Calls Tryz.prog 58 #[.slice a2 n2 c2, .int .i64 k] w1 fun e w' => e = .returned (.bool t) ∧ w' = w1) := HP
        clear ht HP hb1
        go_wp2_with fail
        refine HPP.out.mono ?_
        rintro e w2 ⟨rfl, hw2⟩
        subst hw2
        cases t with
        | true =>
          go_wp2
          go_roundg (gk - 1)
          case measure => omega
          case rel => exact ⟨k + 1, by omega, by go_num, hb2, by unfold Aside; rw [← A.out, M.dchkF_good k L (by rw [HL.out]; exact hlt) C HX.out (by rw [← HE1.out]; exact HZ.out) HT.out.symm]⟩
        | false =>
          go_wp2
          go_ret
          exact ⟨ret_int (A.out.symm.trans (M.dchkF_form k L (by rw [HL.out]; exact hlt) C HX.out (by rw [← HE1.out]; exact HZ.out) HT.out.symm)).symm, hb2⟩
      · have hne : (e1 != 0) = true := by simp [hz]
        have HZ : Hid (e1 ≠ 0) := hz
        clear hz
        go_wp2_with fail
        rw [← HWa.out]
        refine HH.out.mono ?_
        rintro e w1 ⟨rfl, hb1⟩
        have hb2 : Below w.heap.size w w1 := HBA.out.trans (hb1.mono HBA.out.size)
        clear hb1
        go_wp2
        go_ret
        exact ⟨ret_int (by rw [← A.out, M.dchkF_bad k L (by rw [HL.out]; exact hlt) C HX.out (by rw [← HE1.out]; exact HZ.out)]; exact HE1.out), hb2⟩
    · go_wp2
      go_ret
      exact ⟨ret_int (A.out.symm.trans (M.dchkF_end k L (by rw [HL.out]; omega))).symm, hbel⟩

theorem dcheck_any (a : Option Addr) (n cap : Nat) (L : List M.Com) (w : World) (h : Cm w a n L) (hm : n ≤ 9223372036854775807) :
    Calls Tryz.prog 29 #[.slice a n cap] w fun e w' => e = .returned (.int .i64 (M.dchk L)) ∧ Below w.heap.size w w' := by
  by_cases h14 : 14 < n
  · refine (dcheck_many a n cap w h14 hm).mono ?_
    rintro e w' ⟨rfl, rfl⟩
    exact ⟨by rw [M.dchk_many L (by rw [h.1]; exact h14)], Below.refl _ _⟩
  · have e := M.dchk_few L (by rw [h.1]; omega)
    rcases h.cases with ⟨rfl, rfl⟩ | ⟨b, off, rfl, hn, hl, hB, hc⟩
    · refine (dcheck_none a cap w).mono ?_
      rintro e w' ⟨rfl, rfl⟩
      exact ⟨rfl, Below.refl _ _⟩
    · rw [e]
      exact dcheck_some b off n cap L w (by omega) hl hB hc
end Go.Proofs.YtcgpgflnihjpiagGreat

/- Heads and commits that are the call's own; a desk. -/
namespace Go.Proofs.YtcgpgflnihjpiagGreat
open Go.RowKit

/-! ### rows of the call's own, in whatever memory that changes elsewhere -/
theorem ownsRow_elsewhere {W W' : World} {base : Nat} {e : TypeId} {size : Nat} {v : Value} {n : Nat} {xs : List Value} (h : W.ownsRow base e size v n xs) {row : Option Nat} (hg : W.grownBy W' row)
    (hrow : ∀ r, row = some r → ∀ cur, W.heap[r]? ≠ some (.cells cur e (0, 0))) : W'.ownsRow base e size v n xs := by
  refine h.kept hg ?_
  rcases h.2 with ⟨rfl, _⟩ | ⟨g, cap, cur, rfl, _, hgb, _⟩
  · exact .inl rfl
  · exact .inr fun e' => hrow g (by simpa [Value.ownBlock] using e'.symm) cur hgb
theorem ownsRow_later {w w' : World} {base : Nat} {e : TypeId} {size : Nat} {v : Value} {n : Nat} {xs : List Value} (h : w.ownsRow base e size v n xs) (hb : Below w.heap.size w w') : w'.ownsRow base e size v n xs := by
  obtain ⟨h1, h2⟩ := h
  refine ⟨h1, ?_⟩
  rcases h2 with h2 | ⟨g, cap, cur, hv, hg, hh, r⟩
  · exact Or.inl h2
  · exact Or.inr ⟨g, cap, cur, hv, hg, (hb.block g (Array.getElem?_eq_some_iff.1 hh).1).trans hh, r⟩
theorem ownsRow_lower {w : World} {base base' : Nat} {e : TypeId} {size : Nat} {v : Value} {n : Nat} {xs : List Value} (h : w.ownsRow base e size v n xs) (hb : base' ≤ base) : w.ownsRow base' e size v n xs := by
  obtain ⟨h1, h2⟩ := h
  refine ⟨h1, ?_⟩
  rcases h2 with h2 | ⟨g, cap, cur, hv, hg, r⟩
  · exact Or.inl h2
  · exact Or.inr ⟨g, cap, cur, hv, Nat.le_trans hb hg, r⟩
theorem grownBy_set (W : World) (a : Addr) (v : Value) : W.grownBy (W.setCell a v) (some a.block) :=
  ⟨rfl, rfl, rfl, by simp [World.setCell], fun k _ hne => heap_setCell_other W a k v (fun e => hne (by rw [e]))⟩
theorem grown_later {w w' : World} (h : Below w.heap.size w w') : w.grownBy w' none := ⟨h.os, h.tape, h.output, h.size, fun k hk _ => h.block k hk⟩

/-! ### heads -/
def encH (H : List M.Hd) : List Value := H.flatMap fun h => [.string h.1, .int .i64 h.2]
theorem encH_length (H : List M.Hd) : (encH H).length = H.length * 2 := by
  induction H with
  | nil => rfl
  | cons r t ih => simp [encH] at ih ⊢; omega
theorem encH_append (a b : List M.Hd) : encH (a ++ b) = encH a ++ encH b := by simp [encH]
theorem encH_cons (r : M.Hd) (t : List M.Hd) : encH (r :: t) = .string r.1 :: .int .i64 r.2 :: encH t := by simp [encH]
theorem encH_name (l : List M.Hd) (i : Nat) (h : i < l.length) : (encH l)[i * 2]? = some (.string (l.getD i M.hd0).1) := by
  induction l generalizing i with
  | nil => simp at h
  | cons r t ih =>
    rw [encH_cons]
    cases i with
    | zero => simp
    | succ i => rw [show (i + 1) * 2 = i * 2 + 1 + 1 by omega, List.getElem?_cons_succ, List.getElem?_cons_succ, ih i (by simpa using h)]; simp
theorem encH_at (l : List M.Hd) (i : Nat) (h : i < l.length) : (encH l)[i * 2 + 1]? = some (.int .i64 (l.getD i M.hd0).2) := by
  induction l generalizing i with
  | nil => simp at h
  | cons r t ih =>
    rw [encH_cons]
    cases i with
    | zero => simp
    | succ i => rw [show (i + 1) * 2 + 1 = i * 2 + 1 + 1 + 1 by omega, List.getElem?_cons_succ, List.getElem?_cons_succ, ih i (by simpa using h)]; simp
theorem encH_one (l : List M.Hd) : ∀ u ∈ encH l, u.oneCell' = true := by
  intro u hu
  simp only [encH, List.mem_flatMap] at hu
  obtain ⟨r, _, h⟩ := hu
  simp at h
  rcases h with rfl | rfl <;> rfl
/-- The heads H lie in a row of the call's own. -/
def OwnH (w : World) (base : Nat) (v : Value) (H : List M.Hd) : Prop := w.ownsRow base 58 2 v H.length (encH H) ∧ ∀ x ∈ H, x.1.size ≤ 9223372036854775807
theorem OwnH.hs {w : World} {base : Nat} {v : Value} {H : List M.Hd} (h : OwnH w base v H) : ∃ a cap, v = .slice a H.length cap ∧ Hs w a H.length H ∧ H.length ≤ cap ∧ cap ≤ maxLen ∧ (a = none → H.length = 0 ∧ cap = 0) := by
  have h0 := h.1
  obtain ⟨⟨h1, h2⟩, hs⟩ := h
  rcases h2 with ⟨rfl, hn⟩ | ⟨g, cap, cur, rfl, hb, hh, hc, hm, hz, hx⟩
  · exact ⟨none, 0, by rw [hn], ⟨rfl, Or.inl hn⟩, by omega, by simp [maxLen], fun _ => ⟨hn, rfl⟩⟩
  · refine ⟨_, cap, rfl, ⟨rfl, ?_⟩, hc, hm, fun h => by simp at h⟩
    have hlt : g < w.heap.size := (Array.getElem?_eq_some_iff.1 hh).1
    refine Or.inr ⟨g, 0, rfl, hlt, fun i hi => ⟨?_, ?_, ?_⟩⟩
    · rw [World.ownsRow.cellAt h0 (0 + i * 2) (by omega), Nat.zero_add, encH_name H i hi]
    · rw [World.ownsRow.cellAt h0 (0 + i * 2 + 1) (by omega), Nat.zero_add, encH_at H i hi]
    · exact hs _ (by simp [List.getD, hi])
theorem OwnH.later {w w' : World} {base : Nat} {v : Value} {H : List M.Hd} (h : OwnH w base v H) (hb : Below w.heap.size w w') : OwnH w' base v H := ⟨ownsRow_later h.1 hb, h.2⟩
theorem OwnH.lower {w : World} {base base' : Nat} {v : Value} {H : List M.Hd} (h : OwnH w base v H) (hb : base' ≤ base) : OwnH w base' v H := ⟨ownsRow_lower h.1 hb, h.2⟩
theorem OwnH.nil (w : World) (base : Nat) : OwnH w base (.slice none 0 0) [] := ⟨World.ownsRow_nil _ _ _ _, fun x hx => by simp at hx⟩

/-! ### commits -/
def encP (l : List (Value × Value)) : List Value := l.flatMap fun p => [p.1, p.2]
theorem encP_length (l : List (Value × Value)) : (encP l).length = l.length * 2 := by
  induction l with
  | nil => rfl
  | cons r t ih => simp [encP] at ih ⊢; omega
theorem encP_append (a b : List (Value × Value)) : encP (a ++ b) = encP a ++ encP b := by simp [encP]
theorem encP_cons (r : Value × Value) (t : List (Value × Value)) : encP (r :: t) = r.1 :: r.2 :: encP t := by simp [encP]
def vp0 : Value × Value := (.slice none 0 0, .slice none 0 0)
theorem encP_fst (l : List (Value × Value)) (i : Nat) (h : i < l.length) : (encP l)[i * 2]? = some (l.getD i vp0).1 := by
  induction l generalizing i with
  | nil => simp at h
  | cons r t ih =>
    rw [encP_cons]
    cases i with
    | zero => simp
    | succ i => rw [show (i + 1) * 2 = i * 2 + 1 + 1 by omega, List.getElem?_cons_succ, List.getElem?_cons_succ, ih i (by simpa using h)]; simp
theorem encP_snd (l : List (Value × Value)) (i : Nat) (h : i < l.length) : (encP l)[i * 2 + 1]? = some (l.getD i vp0).2 := by
  induction l generalizing i with
  | nil => simp at h
  | cons r t ih =>
    rw [encP_cons]
    cases i with
    | zero => simp
    | succ i => rw [show (i + 1) * 2 + 1 = i * 2 + 1 + 1 + 1 by omega, List.getElem?_cons_succ, List.getElem?_cons_succ, ih i (by simpa using h)]; simp
/-- One commit, its rows and its parents the call's own. -/
def OwnCo (w : World) (base : Nat) (p : Value × Value) (c : M.Com) : Prop := Own w base p.1 c.1 ∧ OwnI w base p.2 c.2 ∧ c.1.length ≤ 1000000 ∧ c.2.length ≤ 1000000
/-- The commits C lie in a row of the call's own, and all that they hold. -/
def OwnK (w : World) (base : Nat) (v : Value) (C : List M.Com) : Prop :=
  ∃ vals : List (Value × Value), vals.length = C.length ∧ w.ownsRow base 54 2 v C.length (encP vals) ∧ ∀ i, i < C.length → OwnCo w base (vals.getD i vp0) (C.getD i ([], []))
theorem OwnK.nil (w : World) (base : Nat) : OwnK w base (.slice none 0 0) [] := ⟨[], rfl, World.ownsRow_nil _ _ _ _, fun i hi => by simp at hi⟩
theorem OwnCo.later {w w' : World} {base : Nat} {p : Value × Value} {c : M.Com} (h : OwnCo w base p c) (hb : Below w.heap.size w w') : OwnCo w' base p c := ⟨ownsRow_later h.1 hb, ownsRow_later h.2.1 hb, h.2.2⟩
theorem OwnK.later {w w' : World} {base : Nat} {v : Value} {C : List M.Com} (h : OwnK w base v C) (hb : Below w.heap.size w w') : OwnK w' base v C := by
  obtain ⟨vals, h1, h2, h3⟩ := h
  exact ⟨vals, h1, ownsRow_later h2 hb, fun i hi => (h3 i hi).later hb⟩
theorem OwnK.lower {w : World} {base base' : Nat} {v : Value} {C : List M.Com} (h : OwnK w base v C) (hb : base' ≤ base) : OwnK w base' v C := by
  obtain ⟨vals, h1, h2, h3⟩ := h
  exact ⟨vals, h1, ownsRow_lower h2 hb, fun i hi => ⟨ownsRow_lower (h3 i hi).1 hb, ownsRow_lower (h3 i hi).2.1 hb, (h3 i hi).2.2⟩⟩
/-- A block of another kind changes. -/
theorem OwnK.elsewhere {w w' : World} {base : Nat} {v : Value} {C : List M.Com} (h : OwnK w base v C) {r : Nat} (hg : w.grownBy w' (some r)) {cur0 : Array Value} {t : TypeId} (hr : w.heap[r]? = some (.cells cur0 t (0, 0))) (h1 : t ≠ 54) (h2 : t ≠ 56) (h3 : t ≠ 3) : OwnK w' base v C := by
  have no : ∀ e, t ≠ e → ∀ r', some r = some r' → ∀ cur, w.heap[r']? ≠ some (.cells cur e (0, 0)) := fun e he r' hr' cur hc => by
    cases hr'
    rw [hr] at hc
    simp at hc
    exact he hc.2
  obtain ⟨vals, k1, k2, k3⟩ := h
  exact ⟨vals, k1, ownsRow_elsewhere k2 hg (no _ h1), fun i hi => ⟨ownsRow_elsewhere (k3 i hi).1 hg (no _ h2), ownsRow_elsewhere (k3 i hi).2.1 hg (no _ h3), (k3 i hi).2.2⟩⟩
theorem OwnH.elsewhere {w w' : World} {base : Nat} {v : Value} {H : List M.Hd} (h : OwnH w base v H) {r : Nat} (hg : w.grownBy w' (some r)) {cur0 : Array Value} {t : TypeId} (hr : w.heap[r]? = some (.cells cur0 t (0, 0))) (h1 : t ≠ 58) : OwnH w' base v H :=
  ⟨ownsRow_elsewhere h.1 hg (fun r' hr' cur hc => by
    cases hr'
    rw [hr] at hc
    simp at hc
    exact h1 hc.2), h.2⟩
/-- Inner slices that are nil are so wholly. -/
def Cn (w : World) (a : Option Addr) (n : Nat) : Prop := ∀ b off, a = some ⟨b, off, none⟩ → ∀ i, i < n → ∀ x m c, (w.cell? ⟨b, off + i * 2, none⟩ = some (.slice x m c) ∨ w.cell? ⟨b, off + i * 2 + 1, none⟩ = some (.slice x m c)) → x = none → m = 0 ∧ c = 0
theorem own_nil {w : World} {base : Nat} {e : TypeId} {size : Nat} {a : Option Addr} {n cap k : Nat} {xs : List Value} (h : w.ownsRow base e size (.slice a n cap) k xs) : a = none → n = 0 ∧ cap = 0 := by
  intro ha
  subst ha
  rcases h.2 with ⟨hv, hn⟩ | ⟨g, cap', cur, hv, _⟩
  · simp at hv; omega
  · simp at hv
theorem OwnK.cm {w : World} {base : Nat} {v : Value} {C : List M.Com} (h : OwnK w base v C) : ∃ a cap, v = .slice a C.length cap ∧ Cm w a C.length C ∧ Cn w a C.length ∧ C.length ≤ cap ∧ cap ≤ maxLen ∧ (a = none → C.length = 0 ∧ cap = 0) := by
  obtain ⟨vals, hl, h0, hv⟩ := h
  obtain ⟨h1, h2⟩ := h0
  rcases h2 with ⟨rfl, hn⟩ | ⟨g, cap, cur, rfl, hb, hh, hc, hm, hz, hx⟩
  · exact ⟨none, 0, by rw [hn], ⟨rfl, Or.inl hn⟩, fun b off e => by simp at e, by omega, by simp [maxLen], fun _ => ⟨hn, rfl⟩⟩
  · have h0 : w.ownsRow base 54 2 (.slice (some ⟨g, 0, none⟩) C.length cap) C.length (encP vals) := ⟨h1, Or.inr ⟨g, cap, cur, rfl, hb, hh, hc, hm, hz, hx⟩⟩
    have hlt : g < w.heap.size := (Array.getElem?_eq_some_iff.1 hh).1
    have cells : ∀ i, i < C.length → w.cell? ⟨g, 0 + i * 2, none⟩ = some (vals.getD i vp0).1 ∧ w.cell? ⟨g, 0 + i * 2 + 1, none⟩ = some (vals.getD i vp0).2 := fun i hi => by
      refine ⟨?_, ?_⟩
      · rw [World.ownsRow.cellAt h0 (0 + i * 2) (by omega), Nat.zero_add, encP_fst vals i (by omega)]
      · rw [World.ownsRow.cellAt h0 (0 + i * 2 + 1) (by omega), Nat.zero_add, encP_snd vals i (by omega)]
    refine ⟨_, cap, rfl, ⟨rfl, Or.inr ⟨g, 0, rfl, hlt, fun i hi => ?_⟩⟩, ?_, hc, hm, fun h => by simp at h⟩
    · obtain ⟨k1, k2⟩ := cells i hi
      obtain ⟨o1, o2, o3, o4⟩ := hv i hi
      obtain ⟨a1, c1, e1, r1, _⟩ := o1.rd
      obtain ⟨a2, c2, e2, r2, _⟩ := o2.ri
      exact ⟨a1, _, c1, a2, _, c2, by rw [k1, e1], by rw [k2, e2], r1, r2, by omega, by omega⟩
    · intro b off e i hi x m c hor hx
      cases e
      obtain ⟨k1, k2⟩ := cells i hi
      obtain ⟨o1, o2, _⟩ := hv i hi
      rcases hor with hcc | hcc
      · have hcc := Option.some.inj (k1.symm.trans hcc)
        unfold Own at o1
        rw [hcc] at o1
        exact own_nil o1 hx
      · have hcc := Option.some.inj (k2.symm.trans hcc)
        unfold OwnI at o2
        rw [hcc] at o2
        exact own_nil o2 hx

/-- A repo that is the call's own. -/
def RepoOwn (w : World) (base : Nat) (v : Value) (C : List M.Com) (H : List M.Hd) : Prop := ∃ x y, v = .agg #[x, y] ∧ OwnK w base x C ∧ OwnH w base y H
theorem RepoOwn.none (w : World) (base : Nat) : RepoOwn w base (.agg #[.slice none 0 0, .slice none 0 0]) [] [] := ⟨_, _, rfl, OwnK.nil _ _, OwnH.nil _ _⟩
theorem RepoOwn.later {w w' : World} {base : Nat} {v : Value} {C : List M.Com} {H : List M.Hd} (h : RepoOwn w base v C H) (hb : Below w.heap.size w w') : RepoOwn w' base v C H := by
  obtain ⟨x, y, e, h1, h2⟩ := h
  exact ⟨x, y, e, h1.later hb, h2.later hb⟩
theorem RepoOwn.lower {w : World} {base base' : Nat} {v : Value} {C : List M.Com} {H : List M.Hd} (h : RepoOwn w base v C H) (hb : base' ≤ base) : RepoOwn w base' v C H := by
  obtain ⟨x, y, e, h1, h2⟩ := h
  exact ⟨x, y, e, h1.lower hb, h2.lower hb⟩
/-- What may be read of a repo. -/
structure RepoV (w : World) (a : Option Addr) (n cap : Nat) (C : List M.Com) (a2 : Option Addr) (n2 cap2 : Nat) (H : List M.Hd) : Prop where
  cm : Cm w a n C
  cn : Cn w a n
  nm : n ≤ 9223372036854775807
  hs : Hs w a2 n2 H
  hm : n2 ≤ 9223372036854775807
  hn : a2 = none → n2 = 0 ∧ cap2 = 0
theorem RepoV.later {w w' : World} {a : Option Addr} {n cap : Nat} {C : List M.Com} {a2 : Option Addr} {n2 cap2 : Nat} {H : List M.Hd} (h : RepoV w a n cap C a2 n2 cap2 H) (hb : Below w.heap.size w w') : RepoV w' a n cap C a2 n2 cap2 H := by
  refine ⟨h.cm.below hb (Nat.le_refl _), ?_, h.nm, h.hs.below hb (Nat.le_refl _), h.hm, h.hn⟩
  intro b off e i hi x m c hor hx
  rcases h.cm.cases with ⟨h0, _⟩ | ⟨b', off', e', _, _, hB, _⟩
  · omega
  · rw [e] at e'
    cases e'
    refine h.cn b off e i hi x m c ?_ hx
    rw [hb.cell (p := ⟨b, off + i * 2, none⟩) hB, hb.cell (p := ⟨b, off + i * 2 + 1, none⟩) hB] at hor
    exact hor
theorem RepoOwn.v {w : World} {base : Nat} {v : Value} {C : List M.Com} {H : List M.Hd} (h : RepoOwn w base v C H) : ∃ a cap a2 cap2, v = .agg #[.slice a C.length cap, .slice a2 H.length cap2] ∧ RepoV w a C.length cap C a2 H.length cap2 H := by
  obtain ⟨x, y, e, h1, h2⟩ := h
  obtain ⟨a, cap, rfl, k1, k2, k3, k4, _⟩ := h1.cm
  obtain ⟨a2, cap2, rfl, l1, l2, l3, l4⟩ := h2.hs
  exact ⟨a, cap, a2, cap2, e, ⟨k1, k2, by unfold maxLen at k4; omega, l1, by unfold maxLen at l3; omega, l4⟩⟩

/-- A desk: its block D, what lies on it. -/
def DeskAt (w : World) (base D : Nat) (C : List M.Com) (H : List M.Hd) (A : List Int) : Prop :=
  ∃ x y z, w.heap[D]? = some (.cells #[x, y, z] 115 (0, 0)) ∧ base ≤ D ∧ OwnK w base x C ∧ OwnH w base y H ∧ OwnI w base z A
theorem DeskAt.lt {w : World} {base D : Nat} {C : List M.Com} {H : List M.Hd} {A : List Int} (h : DeskAt w base D C H A) : D < w.heap.size := by
  obtain ⟨x, y, z, h1, _⟩ := h
  exact (Array.getElem?_eq_some_iff.1 h1).1
theorem DeskAt.later {w w' : World} {base D : Nat} {C : List M.Com} {H : List M.Hd} {A : List Int} (h : DeskAt w base D C H A) (hb : Below w.heap.size w w') : DeskAt w' base D C H A := by
  obtain ⟨x, y, z, h1, h2, h3, h4, h5⟩ := h
  exact ⟨x, y, z, (hb.block D (Array.getElem?_eq_some_iff.1 h1).1).trans h1, h2, h3.later hb, h4.later hb, ownsRow_later h5 hb⟩
end Go.Proofs.YtcgpgflnihjpiagGreat

/- slices.Clone of heads, of numbers. -/
namespace Go.Proofs.YtcgpgflnihjpiagGreat
open Go.RowKit

theorem infoHead : (Tryz.prog.info? 58).map (fun i => (i.zero, i.size, i.bytes)) = some (some (.agg #[.string ⟨#[]⟩, .int .i64 0]), 2, 24) := by kernel_rfl
theorem infoCommit : (Tryz.prog.info? 54).map (fun i => (i.zero, i.size, i.bytes)) = some (some (.agg #[.slice none 0 0, .slice none 0 0]), 2, 48) := by kernel_rfl

theorem Hs.enc {w : World} {ad : Addr} {n : Nat} {H : List M.Hd} (h : Hs w (some ad) n H) : ∀ j u, (encH H)[j]? = some u → w.cell? (ad.add j) = some u := by
  intro j u hj
  have hjl : j < (encH H).length := (List.getElem?_eq_some_iff.1 hj).1
  rw [encH_length] at hjl
  rcases h.cases with ⟨_, rfl⟩ | ⟨b, off, ea, _, hl, _, hc⟩
  · simp at hjl
  · obtain rfl : ad = ⟨b, off, none⟩ := by simpa using ea
    rcases Nat.mod_two_eq_zero_or_one j with h0 | h1
    · obtain ⟨i, rfl⟩ : ∃ i, j = i * 2 := ⟨j / 2, by omega⟩
      rw [encH_name H i (by omega)] at hj
      rw [← hj, Addr.add_lit]; exact (hc i (by omega)).1
    · obtain ⟨i, rfl⟩ : ∃ i, j = i * 2 + 1 := ⟨j / 2, by omega⟩
      rw [encH_at H i (by omega)] at hj
      rw [← hj, Addr.add_lit, ← Nat.add_assoc]
      exact (hc i (by omega)).2.1
theorem Ri.enc {w : World} {ad : Addr} {n : Nat} {l : List Int} (h : Ri w (some ad) n l) : ∀ j u, (l.map (Value.int .i64))[j]? = some u → w.cell? (ad.add j) = some u := by
  intro j u hj
  have hjl : j < l.length := by have := (List.getElem?_eq_some_iff.1 hj).1; simpa using this
  rcases h.cases with ⟨_, rfl⟩ | ⟨b, off, ea, _, hl, _, hc⟩
  · simp at hjl
  · obtain rfl : ad = ⟨b, off, none⟩ := by simpa using ea
    rw [Addr.add_lit, hc j (by omega), ← hj]
    simp [List.getD, hjl]

set_option maxHeartbeats 1000000 in
theorem hcloned_some (ad : Addr) (n cap : Nat) (H : List M.Hd) (w : World) (hn : n ≤ 1000) (h : Hs w (some ad) n H) :
    Calls Tryz.prog 110 #[.slice (some ad) n cap] w fun e w' => ∃ v, e = .returned v ∧ OwnH w' w.heap.size v H ∧ Below w.heap.size w w' := by
  have hnn : ∀ W, (binOp .eql 33 (.slice (some ad) n cap) (.slice none 0 0)).run Tryz.prog W = .ok (.bool false) W := fun W => by
    have h := Lib.run_eql_slice_nil (P := Tryz.prog) W 33 58 (some ad) n cap 0 0 Tryz.underlying33
    simpa using h
  obtain ⟨i0, hi, hz0, hz1, hz2⟩ := info_parts infoHead
  have hw : Below w.heap.size w (w.alloc (.cells #[] 58)) := (Below.refl _ _).alloc (Nat.le_refl _) _
  have HE : Hid (∀ j u, (encH H)[j]? = some u → (w.alloc (.cells #[] 58)).cell? (ad.add j) = some u) := (h.below hw (Nat.le_refl _)).enc
  have HO : Hid ((w.alloc (.cells #[] 58)).ownsRow w.heap.size 58 2 (.slice (some ⟨w.heap.size, 0, none⟩) 0 0) 0 []) := World.ownsRow_made (base := w.heap.size) (e := 58) (size := 2) w #[] 0 (Nat.le_refl _) (by simp [maxLen]) rfl
  have HL : Hid (H.length = n) := h.1
  have HS : Hid (∀ x ∈ H, x.1.size ≤ 9223372036854775807) := h.small
  clear h
  go_enter Tryz.func110, Tryz.ntmps110
  go_wp2_with (at_builtin; refine wpList_append_own _ rfl _ _ 33 rfl w.heap.size 58 i0 (.agg #[.string ⟨#[]⟩, .int .i64 0]) 2 24 Tryz.underlying33 hi hz0 hz1 hz2 rfl (by decide) _ 0 [] rfl HO.out ad n cap (encH H) rfl (by rw [encH_length, HL.out]) HE.out (encH_one H) (by simp only [maxLen]; omega) (by omega) (by simp) ?_)
  intro v' w' h1 h2 _
  have hb4 : Below w.heap.size w w' := hw.trans ((Below.refl _ _).grown h2 (by simp) fun k hk => (World.ownsRow.lt HO.out k hk).1)
  have HO' : Hid (OwnH w' w.heap.size v' H) := ⟨by rw [HL.out]; simpa using h1, HS.out⟩
  clear h1 h2
  go_wp2
  go_ret
  exact ⟨_, rfl, HO'.out, hb4⟩
theorem hcloned_nil (w : World) :
    Calls Tryz.prog 110 #[.slice none 0 0] w fun e w' => e = .returned (.slice none 0 0) ∧ w' = w := by
  have hnn : ∀ W, (binOp .eql 33 (.slice none 0 0) (.slice none 0 0)).run Tryz.prog W = .ok (.bool true) W := fun W => by
    have h := Lib.run_eql_slice_nil (P := Tryz.prog) W 33 58 none 0 0 0 0 Tryz.underlying33
    simpa using h
  go_enter Tryz.func110, Tryz.ntmps110
  go_wp2
  go_ret
  exact ⟨rfl, rfl⟩
theorem hcloned_any (a : Option Addr) (n cap : Nat) (H : List M.Hd) (w : World) (hn : n ≤ 1000) (h : Hs w a n H) (hnil : a = none → n = 0 ∧ cap = 0) :
    Calls Tryz.prog 110 #[.slice a n cap] w fun e w' => ∃ v, e = .returned v ∧ OwnH w' w.heap.size v H ∧ Below w.heap.size w w' := by
  cases a with
  | none =>
    obtain ⟨rfl, rfl⟩ := hnil rfl
    have e : H = [] := List.eq_nil_of_length_eq_zero h.1
    subst e
    refine (hcloned_nil w).mono ?_
    rintro e w' ⟨rfl, rfl⟩
    exact ⟨_, rfl, OwnH.nil _ _, Below.refl _ _⟩
  | some ad => exact hcloned_some ad n cap H w hn h

set_option maxHeartbeats 1000000 in
theorem icloned_some (ad : Addr) (n cap : Nat) (l : List Int) (w : World) (hn : n ≤ 1000) (h : Ri w (some ad) n l) :
    Calls Tryz.prog 111 #[.slice (some ad) n cap] w fun e w' => ∃ v, e = .returned v ∧ OwnI w' w.heap.size v l ∧ Below w.heap.size w w' := by
  have hnn : ∀ W, (binOp .eql 24 (.slice (some ad) n cap) (.slice none 0 0)).run Tryz.prog W = .ok (.bool false) W := fun W => by
    have h := Lib.run_eql_slice_nil (P := Tryz.prog) W 24 3 (some ad) n cap 0 0 Tryz.underlying24
    simpa using h
  obtain ⟨i0, hi, hz0, hz1, hz2⟩ := info_parts infoInt
  have hw : Below w.heap.size w (w.alloc (.cells #[] 3)) := (Below.refl _ _).alloc (Nat.le_refl _) _
  have HE : Hid (∀ j u, (l.map (Value.int .i64))[j]? = some u → (w.alloc (.cells #[] 3)).cell? (ad.add j) = some u) := (h.below hw (Nat.le_refl _)).enc
  have HO : Hid ((w.alloc (.cells #[] 3)).ownsRow w.heap.size 3 1 (.slice (some ⟨w.heap.size, 0, none⟩) 0 0) 0 []) := World.ownsRow_made (base := w.heap.size) (e := 3) (size := 1) w #[] 0 (Nat.le_refl _) (by simp [maxLen]) rfl
  have HL : Hid (l.length = n) := h.1
  clear h
  go_enter Tryz.func111, Tryz.ntmps111
  go_wp2_with (at_builtin; refine wpList_append_own _ rfl _ _ 24 rfl w.heap.size 3 i0 (.int .i64 0) 1 8 Tryz.underlying24 hi hz0 hz1 hz2 rfl (by decide) _ 0 [] rfl HO.out ad n cap (l.map (Value.int .i64)) rfl (by rw [List.length_map, HL.out]; omega) HE.out (by intro u hu; obtain ⟨y, _, rfl⟩ := List.mem_map.1 hu; rfl) (by simp only [maxLen]; omega) (by omega) (by simp) ?_)
  intro v' w' h1 h2 _
  have hb4 : Below w.heap.size w w' := hw.trans ((Below.refl _ _).grown h2 (by simp) fun k hk => (World.ownsRow.lt HO.out k hk).1)
  have HO' : Hid (OwnI w' w.heap.size v' l) := by unfold Hid OwnI; rw [HL.out]; simpa using h1
  clear h1 h2
  go_wp2
  go_ret
  exact ⟨_, rfl, HO'.out, hb4⟩
theorem icloned_nil (w : World) :
    Calls Tryz.prog 111 #[.slice none 0 0] w fun e w' => e = .returned (.slice none 0 0) ∧ w' = w := by
  have hnn : ∀ W, (binOp .eql 24 (.slice none 0 0) (.slice none 0 0)).run Tryz.prog W = .ok (.bool true) W := fun W => by
    have h := Lib.run_eql_slice_nil (P := Tryz.prog) W 24 3 none 0 0 0 0 Tryz.underlying24
    simpa using h
  go_enter Tryz.func111, Tryz.ntmps111
  go_wp2
  go_ret
  exact ⟨rfl, rfl⟩
theorem icloned_any (a : Option Addr) (n cap : Nat) (l : List Int) (w : World) (hn : n ≤ 1000) (h : Ri w a n l) (hnil : a = none → n = 0 ∧ cap = 0) :
    Calls Tryz.prog 111 #[.slice a n cap] w fun e w' => ∃ v, e = .returned v ∧ OwnI w' w.heap.size v l ∧ Below w.heap.size w w' := by
  cases a with
  | none =>
    obtain ⟨rfl, rfl⟩ := hnil rfl
    have e : l = [] := List.eq_nil_of_length_eq_zero h.1
    subst e
    refine (icloned_nil w).mono ?_
    rintro e w' ⟨rfl, rfl⟩
    exact ⟨_, rfl, OwnI.nil _ _, Below.refl _ _⟩
  | some ad => exact icloned_some ad n cap l w hn h
end Go.Proofs.YtcgpgflnihjpiagGreat

/- Appending a slice that may be nil to a row of the call's own, at a step of a region: rows, ints, heads. -/
namespace Go.Proofs.YtcgpgflnihjpiagGreat
open Go.RowKit

theorem step_append_any {w : World} {ops : Array Oper} {o : Oper} {a : Act} {K : Act → World → Prop} {Q : Exit → Act → World → Prop} {E : Prop} (hgd : o.guard = none) (s x : Operand) (t : TypeId)
    (ho : o.op = .call { callee := .builtin .append, args := #[s, x], argTypes := #[t, t] })
    (base : Nat) (e : TypeId) (i : TypeInfo) (z : Value) (size bytes : Nat) (ht : Tryz.prog.underlying t = some (.slice e)) (hi : Tryz.prog.info? e = some i) (hz : i.zero = some z)
    (hsize : i.size = size) (hby : i.bytes = bytes) (hzs : z.cells.size = size) (hsz : 0 < size)
    (v : Value) (n : Nat) (xs : List Value) (hs : a.eval s = v) (hown : w.ownsRow base e size v n xs)
    (ao : Option Addr) (m c : Nat) (news : List Value) (hx : a.eval x = .slice ao m c) (hl : news.length = m * size) (hnews : ∀ ad, ao = some ad → ∀ j u, news[j]? = some u → w.cell? (ad.add j) = some u) (hnil : ao = none → m = 0 ∧ c = 0) (h1 : ∀ u ∈ news, u.oneCell' = true)
    (h63 : n + m ≤ maxLen) (hbytes : (n + m) * bytes ≤ 140737488355328) (hbase : base ≤ w.heap.size)
    (h : ∀ v' w', w'.ownsRow base e size v' (n + m) (xs ++ news) → w.grownBy w' v.ownBlock → K (a.put o.dst v') w') :
    if Region.wanted o (yielded ops a.tmps) = true then Oper.wp Tryz.prog o a w K Q else E := by
  have hw : Region.wanted o (yielded ops a.tmps) = true := by simp [Region.wanted, hgd]
  rw [if_pos hw]
  cases ao with
  | none =>
    obtain ⟨rfl, rfl⟩ := hnil rfl
    have e2 : news = [] := List.eq_nil_of_length_eq_zero (by omega)
    subst e2
    have hrun := run_append_owned_none (P := Tryz.prog) (w := w) base t o.type e i size ht hi v n xs hown
    have hk := h v w (by simpa using hown) ⟨rfl, rfl, rfl, Nat.le_refl _, fun _ _ _ => rfl⟩
    unfold Oper.wp
    simp [execOp, ho, resolve, invoke, builtin, hs, hx, hrun, Result.andThen]
    exact hk
  | some ad =>
    exact wp_append_own w s x t ho base e i z size bytes ht hi hz hsize hby hzs hsz v n xs hs hown ad m c news hx hl (hnews ad rfl) h1 h63 hbytes hbase (fun v' w' k1 k2 _ => h v' w' k1 k2)

theorem news_rd {w : World} {ao : Option Addr} {n : Nat} {l : List (Int × Int)} (h : Rd w ao n l) : ∀ ad, ao = some ad → ∀ j u, (enc l)[j]? = some u → w.cell? (ad.add j) = some u := by
  intro ad e
  rcases h.cases with ⟨rfl, rfl⟩ | ⟨b, off, hab, hn, hl, hB, hc⟩
  · intro j u hj; simp [YtcgpgflnihjpiagGreat.enc] at hj
  · obtain rfl : ad = ⟨b, off, none⟩ := by rw [e] at hab; simpa using hab
    exact Rd.enc hl hc
theorem news_ri {w : World} {ao : Option Addr} {n : Nat} {l : List Int} (h : Ri w ao n l) : ∀ ad, ao = some ad → ∀ j u, (l.map (Value.int .i64))[j]? = some u → w.cell? (ad.add j) = some u := by
  intro ad e j u hj
  rcases h.cases with ⟨rfl, rfl⟩ | ⟨b, off, hab, hn, hl, hB, hc⟩
  · simp at hj
  · obtain rfl : ad = ⟨b, off, none⟩ := by rw [e] at hab; simpa using hab
    have hjl : j < l.length := by have := (List.getElem?_eq_some_iff.1 hj).1; simpa using this
    rw [Addr.add_lit, hc j (by omega)]
    simp [List.getElem?_map, List.getElem?_eq_getElem hjl] at hj
    rw [← hj]
    simp [List.getD, hjl]
theorem news_hs {w : World} {ao : Option Addr} {n : Nat} {H : List M.Hd} (h : Hs w ao n H) : ∀ ad, ao = some ad → ∀ j u, (encH H)[j]? = some u → w.cell? (ad.add j) = some u := by
  intro ad e j u hj
  obtain ⟨hl, h0 | ⟨b, off, hab, hB, hc⟩⟩ := h
  · obtain rfl : H = [] := List.eq_nil_of_length_eq_zero (by omega)
    simp [encH] at hj
  · obtain rfl : ad = ⟨b, off, none⟩ := by rw [e] at hab; simpa using hab
    have hjl : j < (encH H).length := (List.getElem?_eq_some_iff.1 hj).1
    rw [encH_length] at hjl
    have q := hc (j / 2) (by omega)
    rw [Addr.add_lit]
    have h2 : j % 2 = 0 ∨ j % 2 = 1 := by omega
    rcases h2 with h2 | h2
    · have ej : j = j / 2 * 2 := by omega
      rw [ej] at hj ⊢
      rw [encH_name H (j / 2) (by omega)] at hj
      rw [← hj]; exact q.1
    · have ej : j = j / 2 * 2 + 1 := by omega
      rw [ej] at hj ⊢
      rw [encH_at H (j / 2) (by omega)] at hj
      rw [← hj, ← Nat.add_assoc]; exact q.2.1
theorem hs_small {w : World} {ao : Option Addr} {n : Nat} {H : List M.Hd} (h : Hs w ao n H) : ∀ x ∈ H, x.1.size ≤ 9223372036854775807 := by
  intro x hx
  obtain ⟨i, hi, e⟩ := List.getElem_of_mem hx
  obtain ⟨hl, h0 | ⟨b, off, hab, hB, hc⟩⟩ := h
  · omega
  · have := (hc i (by omega)).2.2
    rwa [show H.getD i M.hd0 = x by simp [List.getD, hi, e]] at this

theorem step_rows {w : World} {ops : Array Oper} {o : Oper} {a : Act} {K : Act → World → Prop} {Q : Exit → Act → World → Prop} {E : Prop} (hgd : o.guard = none) (s x : Operand)
    (ho : o.op = .call { callee := .builtin .append, args := #[s, x], argTypes := #[47, 47] })
    (base : Nat) (v : Value) (l : List (Int × Int)) (hs : a.eval s = v) (hown : Own w base v l)
    (ao : Option Addr) (m c : Nat) (l2 : List (Int × Int)) (hx : a.eval x = .slice ao m c) (hr : Rd w ao m l2) (hnil : ao = none → m = 0 ∧ c = 0)
    (hbig : l.length + m ≤ 1000000) (hbase : base ≤ w.heap.size)
    (h : ∀ v' w', Own w' base v' (l ++ l2) → w.grownBy w' v.ownBlock → K (a.put o.dst v') w') :
    if Region.wanted o (yielded ops a.tmps) = true then Oper.wp Tryz.prog o a w K Q else E := by
  obtain ⟨i0, hi, hz0, hz1, hz2⟩ := info_parts infoRow
  refine step_append_any hgd s x 47 ho base 56 i0 (.agg #[.int .i64 0, .int .i64 0]) 2 16 Tryz.underlying47 hi hz0 hz1 hz2 rfl (by decide) v l.length (enc l) hs hown ao m c (enc l2) hx (by rw [enc_length, hr.1]) (news_rd hr) hnil (enc_one l2)
    (by simp only [maxLen]; omega) (by omega) hbase ?_
  intro v' w' h1 h2
  refine h v' w' ?_ h2
  unfold Own
  rw [enc_append, List.length_append, hr.1]
  exact h1
theorem step_ints {w : World} {ops : Array Oper} {o : Oper} {a : Act} {K : Act → World → Prop} {Q : Exit → Act → World → Prop} {E : Prop} (hgd : o.guard = none) (s x : Operand)
    (ho : o.op = .call { callee := .builtin .append, args := #[s, x], argTypes := #[24, 24] })
    (base : Nat) (v : Value) (l : List Int) (hs : a.eval s = v) (hown : OwnI w base v l)
    (ao : Option Addr) (m c : Nat) (l2 : List Int) (hx : a.eval x = .slice ao m c) (hr : Ri w ao m l2) (hnil : ao = none → m = 0 ∧ c = 0)
    (hbig : l.length + m ≤ 1000000) (hbase : base ≤ w.heap.size)
    (h : ∀ v' w', OwnI w' base v' (l ++ l2) → w.grownBy w' v.ownBlock → K (a.put o.dst v') w') :
    if Region.wanted o (yielded ops a.tmps) = true then Oper.wp Tryz.prog o a w K Q else E := by
  obtain ⟨i0, hi, hz0, hz1, hz2⟩ := info_parts infoInt
  refine step_append_any hgd s x 24 ho base 3 i0 (.int .i64 0) 1 8 Tryz.underlying24 hi hz0 hz1 hz2 rfl (by decide) v l.length (l.map (Value.int .i64)) hs hown ao m c (l2.map (Value.int .i64)) hx (by rw [List.length_map, hr.1]; omega) (news_ri hr) hnil (fun u hu => by obtain ⟨q, _, rfl⟩ := List.mem_map.1 hu; rfl)
    (by simp only [maxLen]; omega) (by omega) hbase ?_
  intro v' w' h1 h2
  refine h v' w' ?_ h2
  unfold OwnI
  rw [List.map_append, List.length_append, hr.1]
  exact h1
theorem step_heads {w : World} {ops : Array Oper} {o : Oper} {a : Act} {K : Act → World → Prop} {Q : Exit → Act → World → Prop} {E : Prop} (hgd : o.guard = none) (s x : Operand)
    (ho : o.op = .call { callee := .builtin .append, args := #[s, x], argTypes := #[33, 33] })
    (base : Nat) (v : Value) (l : List M.Hd) (hs : a.eval s = v) (hown : OwnH w base v l)
    (ao : Option Addr) (m c : Nat) (l2 : List M.Hd) (hx : a.eval x = .slice ao m c) (hr : Hs w ao m l2) (hnil : ao = none → m = 0 ∧ c = 0)
    (hbig : l.length + m ≤ 1000000) (hbase : base ≤ w.heap.size)
    (h : ∀ v' w', OwnH w' base v' (l ++ l2) → w.grownBy w' v.ownBlock → K (a.put o.dst v') w') :
    if Region.wanted o (yielded ops a.tmps) = true then Oper.wp Tryz.prog o a w K Q else E := by
  obtain ⟨i0, hi, hz0, hz1, hz2⟩ := info_parts infoHead
  refine step_append_any hgd s x 33 ho base 58 i0 (.agg #[.string ⟨#[]⟩, .int .i64 0]) 2 24 Tryz.underlying33 hi hz0 hz1 hz2 rfl (by decide) v l.length (encH l) hs hown.1 ao m c (encH l2) hx (by rw [encH_length, hr.1]) (news_hs hr) hnil (encH_one l2)
    (by simp only [maxLen]; omega) (by omega) hbase ?_
  intro v' w' h1 h2
  refine h v' w' ⟨?_, fun x hx => ?_⟩ h2
  · rw [encH_append, List.length_append, hr.1]
    exact h1
  · rcases List.mem_append.1 hx with hx | hx
    · exact hown.2 x hx
    · exact hs_small hr x hx
theorem wpl_heads {w : World} {ops : Array Oper} {rest : List Oper} {o : Oper} {a : Act} {Q : Exit → Act → World → Prop} (hgd : o.guard = none) (s x : Operand)
    (ho : o.op = .call { callee := .builtin .append, args := #[s, x], argTypes := #[33, 33] })
    (base : Nat) (v : Value) (l : List M.Hd) (hs : a.eval s = v) (hown : OwnH w base v l)
    (ao : Option Addr) (m c : Nat) (l2 : List M.Hd) (hx : a.eval x = .slice ao m c) (hr : Hs w ao m l2) (hnil : ao = none → m = 0 ∧ c = 0)
    (hbig : l.length + m ≤ 1000000) (hbase : base ≤ w.heap.size)
    (h : ∀ v' w', OwnH w' base v' (l ++ l2) → w.grownBy w' v.ownBlock → wpList Tryz.prog ops Q rest (a.put o.dst v') w') : wpList Tryz.prog ops Q (o :: rest) a w := by
  refine wpList_plain hgd fun K hK => ?_
  have := step_heads (ops := ops) (K := K) (Q := Q) (E := True) hgd s x ho base v l hs hown ao m c l2 hx hr hnil hbig hbase (fun v' w' h1 h2 => hK _ _ (h v' w' h1 h2))
  rwa [if_pos (by simp [Region.wanted, hgd])] at this
theorem own_empty (w : World) (base : Nat) (e : TypeId) (size : Nat) (hb : base ≤ w.heap.size) : (w.alloc (.cells #[] e)).ownsRow base e size (.slice (some ⟨w.heap.size, 0, none⟩) 0 0) 0 [] :=
  ⟨by simp, Or.inr ⟨w.heap.size, 0, #[], rfl, hb, heap_alloc_new _ _, Nat.le_refl _, by simp [maxLen], by simp, by simp⟩⟩

section
variable {P : Program} {ops : Array Oper} {Q : Exit → Act → World → Prop} {md : Region.Mode} {S : World → Prop} {L : Nat}
/-- Two may come up. -/
theorem till_two (i j : Nat) {o o' : Oper} {fuel : Nat} {listed : Array Bool} {a : Act} {w : World} (ho : ops[i]? = some o) (ho' : ops[j]? = some o') (hiL : i ≠ L) (hjL : j ≠ L) (hr : Region.ready md ops listed = [i, j])
    (h : ∀ K' : Act → World → Prop, Shut (∀ a w, S w → (S w → Till P md ops Q S L fuel (listed.setIfInBounds i true) a w) → K' a w) → if Region.wanted o (yielded ops a.tmps) = true then Oper.wp P o a w K' Q else K' (a.put o.dst undef) w)
    (h' : ∀ K' : Act → World → Prop, Shut (∀ a w, S w → (S w → Till P md ops Q S L fuel (listed.setIfInBounds j true) a w) → K' a w) → if Region.wanted o' (yielded ops a.tmps) = true then Oper.wp P o' a w K' Q else K' (a.put o'.dst undef) w) :
    Till P md ops Q S L (fuel + 1) listed a w := by
  refine ⟨fun e => (by rw [hr] at e; cases e), fun k hk => ?_⟩
  rw [hr] at hk
  have hk2 : k = i ∨ k = j := by simpa using hk
  rcases hk2 with rfl | rfl
  · exact wpOp_step ho (fun K' hK => h K' (fun a w hS hW => hK a w ⟨fun _ _ => hS, hW hS⟩))
  · exact wpOp_step ho' (fun K' hK => h' K' (fun a w hS hW => hK a w ⟨fun _ _ => hS, hW hS⟩))
end
end Go.Proofs.YtcgpgflnihjpiagGreat
