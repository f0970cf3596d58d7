/- Plain facts on what a pen has put, with no program in sight. -/
import Derived.Test.YtcgpgflnihjpiagByt1
namespace Go.Proofs.Ytcgpgflnihjpiag.M

def pnB (two : Bool) (n : Int) : Bool := decide (0 ≤ n ∧ n < (if two = true then 65536 else 256))
def pnE (two : Bool) (n : Int) : By := if two = true then b2 n else [b1 n]
/-- One number more: the bytes, and whether a number could not stand. -/
def pnS (two : Bool) (st : By × Bool) (n : Int) : By × Bool := if st.2 = true then st else if pnB two n = true then (st.1 ++ pnE two n, false) else (st.1, true)
def pnL (two : Bool) (st : By × Bool) (ns : List Int) : By × Bool := ns.foldl (pnS two) st
theorem pnL_over (two : Bool) (l : By) (ns : List Int) : pnL two (l, true) ns = (l, true) := by
  induction ns with
  | nil => rfl
  | cons n t ih => unfold pnL at ih ⊢; rw [List.foldl_cons]; exact ih
theorem pnL_take (two : Bool) (st : By × Bool) (ns : List Int) (k : Nat) (h : k < ns.length) : pnL two st (ns.take (k + 1)) = pnS two (pnL two st (ns.take k)) (ns.getD k 0) := by
  unfold pnL
  rw [List.take_succ_eq_append_getElem h, List.foldl_append]
  simp [List.getD, h]
/-- Over once, over for all. -/
theorem pnL_stays (two : Bool) (st : By × Bool) (ns : List Int) (k : Nat) (h : (pnL two st (ns.take k)).2 = true) : pnL two st ns = pnL two st (ns.take k) := by
  have e : pnL two st ns = pnL two (pnL two st (ns.take k)) (ns.drop k) := by
    unfold pnL
    rw [← List.foldl_append, List.take_append_drop]
  rw [e]
  generalize pnL two st (ns.take k) = q at *
  obtain ⟨l, o⟩ := q
  simp only at h
  subst h
  exact pnL_over two l _
theorem byte_mod (n : Nat) : UInt8.ofNat (n % 256) = UInt8.ofNat n := by
  apply UInt8.toNat_inj.1
  rw [UInt8.toNat_ofNat', UInt8.toNat_ofNat']
  omega
/-- A text. -/
def pnT (st : By × Bool) (s : By) : By × Bool := if (pnS false st s.length).2 = true then pnS false st s.length else ((pnS false st s.length).1 ++ s, false)

theorem pnS_len (two : Bool) (st : By × Bool) (n : Int) : (pnS two st n).1.length ≤ st.1.length + 2 := by
  unfold pnS pnE b2
  split
  · omega
  · split
    · cases two <;> simp
    · simp
theorem pnL_len (two : Bool) (st : By × Bool) (ns : List Int) : (pnL two st ns).1.length ≤ st.1.length + 2 * ns.length := by
  unfold pnL
  induction ns generalizing st with
  | nil => simp
  | cons n t ih =>
    rw [List.foldl_cons, List.length_cons]
    have h1 := ih (pnS two st n)
    have h2 := pnS_len two st n
    omega
theorem pnS_small {st : By × Bool} {n : Nat} (h : (pnS false st (n : Int)).2 = false) : n < 256 := by
  unfold pnS pnB at h
  by_cases h1 : st.2 = true
  · rw [if_pos h1] at h; rw [h1] at h; cases h
  · rw [if_neg h1] at h
    by_cases h2 : n < 256
    · exact h2
    · rw [if_neg (by simp; omega)] at h; cases h
theorem pnL_one (two : Bool) (st : By × Bool) (n : Int) : pnL two st [n] = pnS two st n := rfl

theorem pnS_over (two : Bool) (l : By) (n : Int) : pnS two (l, true) n = (l, true) := rfl
theorem pnT_over (l s : By) : pnT (l, true) s = (l, true) := rfl
theorem pnT_len (st : By × Bool) (s : By) : (pnT st s).1.length ≤ st.1.length + 257 := by
  unfold pnT
  have h := pnS_len false st s.length
  split
  · omega
  · rename_i h1
    have h2 := pnS_small (by simpa using h1)
    rw [List.length_append]
    omega
/-- A step: what was over stays so; else something more is put, or it is over. -/
def Step (st st' : By × Bool) (ok : Prop) (add : By) : Prop := (st.2 = true → st' = st) ∧ (st.2 = false → ok → st' = (st.1 ++ add, false)) ∧ (st.2 = false → ¬ ok → st'.2 = true)
theorem Step.then {a b c : By × Bool} {ok ok' : Prop} {x y : By} (h : Step a b ok x) (k : Step b c ok' y) : Step a c (ok ∧ ok') (x ++ y) := by
  refine ⟨fun e => ?_, fun e ⟨h1, h2⟩ => ?_, fun e hn => ?_⟩
  · have e1 := h.1 e
    rw [k.1 (by rw [e1]; exact e), e1]
  · have e1 := h.2.1 e h1
    rw [k.2.1 (by rw [e1]) h2, e1, List.append_assoc]
  · by_cases h1 : ok
    · have e1 := h.2.1 e h1
      exact k.2.2 (by rw [e1]) (fun h2 => hn ⟨h1, h2⟩)
    · have e1 := h.2.2 e h1
      rw [k.1 e1]; exact e1
theorem Step.iff {a b : By × Bool} {ok ok' : Prop} {x y : By} (h : Step a b ok x) (e : ok ↔ ok') (e2 : x = y) : Step a b ok' y := by
  subst e2; rwa [← propext e]
theorem step_num (two : Bool) (st : By × Bool) (n : Int) : Step st (pnS two st n) (pnB two n = true) (pnE two n) := by
  refine ⟨fun e => ?_, fun e h => ?_, fun e h => ?_⟩
  · unfold pnS; rw [if_pos e]
  · unfold pnS; rw [if_neg (by rw [e]; simp), if_pos h]
  · unfold pnS; rw [if_neg (by rw [e]; simp), if_neg h]
theorem step_text (st : By × Bool) (s : By) : Step st (pnT st s) (s.length < 256) (pT s) := by
  have hb : pnB false (s.length : Int) = true ↔ s.length < 256 := by unfold pnB; simp; omega
  obtain ⟨h1, h2, h3⟩ := step_num false st s.length
  refine ⟨fun e => ?_, fun e h => ?_, fun e h => ?_⟩
  · unfold pnT; rw [h1 e, if_pos e]
  · unfold pnT; rw [h2 e (hb.2 h), if_neg (by simp)]; simp [pnE, pT]
  · have := h3 e (fun k => h (hb.1 k))
    unfold pnT; rw [if_pos this, this]
theorem step_list {α : Type} (f : By × Bool → α → By × Bool) (ok : α → Prop) (p : α → By) (hf : ∀ st c, Step st (f st c) (ok c) (p c)) (l : List α) (st : By × Bool) : Step st (l.foldl f st) (∀ c ∈ l, ok c) (l.flatMap p) := by
  induction l generalizing st with
  | nil => exact ⟨fun _ => rfl, fun e _ => by obtain ⟨a, b⟩ := st; simp only at e; subst e; simp, fun _ h => absurd (by simp) h⟩
  | cons c t ih =>
    exact ((hf st c).then (ih (f st c))).iff (by simp) (by simp)
/-- A change, an act. -/
def wC (st : By × Bool) (c : Chg) : By × Bool := pnL true (pnL false st [c.1]) [c.2.1 + 1, c.2.2 + 1]
def wA4 (x : Act) : By × Bool := pnL false (pnT (pnT (pnL false ([], false) [x.kind]) x.one) x.two) [(x.chs.length : Int)]
def wA (x : Act) : By × Bool := x.chs.foldl wC (wA4 x)
theorem step_C (st : By × Bool) (c : Chg) : Step st (wC st c) (okC c) (pC c) := by
  refine (((step_num false st c.1).then (step_num true _ (c.2.1 + 1))).then (step_num true _ (c.2.2 + 1))).iff ?_ ?_
  · unfold pnB okC; simp; omega
  · unfold pnE pC; simp
theorem wA_step (x : Act) : Step ([], false) (wA x) (okA x) (pA x) := by
  refine (((((step_num false ([], false) x.kind).then (step_text _ x.one)).then (step_text _ x.two)).then (step_num false _ x.chs.length)).then (step_list wC okC pC step_C x.chs _)).iff ?_ ?_
  · unfold pnB okA
    simp only [decide_eq_true_eq, Bool.false_eq_true, if_false]
    constructor
    · rintro ⟨⟨⟨⟨h1, h2⟩, h3⟩, h4⟩, h5⟩
      exact ⟨h1, h2, h3, by omega, h5⟩
    · rintro ⟨h1, h2, h3, h4, h5⟩
      exact ⟨⟨⟨⟨h1, h2⟩, h3⟩, by omega⟩, h5⟩
  · unfold pnE pA; simp [pL]
theorem wA_ok {x : Act} (h : okA x) : wA x = (pA x, false) := by
  have := (wA_step x).2.1 rfl h
  simpa using this
theorem wA_bad {x : Act} (h : ¬ okA x) : (wA x).2 = true := (wA_step x).2.2 rfl h
theorem wC_take (st : By × Bool) (l : List Chg) (k : Nat) (h : k < l.length) : (l.take (k + 1)).foldl wC st = wC ((l.take k).foldl wC st) (l.getD k (0, 0, 0)) := by
  rw [List.take_succ_eq_append_getElem h, List.foldl_append]
  simp [List.getD, h]
theorem wC_len (st : By × Bool) (c : Chg) : (wC st c).1.length ≤ st.1.length + 6 := by
  have h1 := pnL_len true (pnL false st [c.1]) [c.2.1 + 1, c.2.2 + 1]
  have h2 := pnL_len false st [c.1]
  unfold wC
  simp at h1 h2
  omega
theorem wC_all (st : By × Bool) (l : List Chg) : (l.foldl wC st).1.length ≤ st.1.length + 6 * l.length := by
  induction l generalizing st with
  | nil => simp
  | cons c t ih =>
    have h1 := ih (wC st c)
    have h2 := wC_len st c
    rw [List.foldl_cons, List.length_cons]
    omega
/-- It never grows long. -/
theorem wA_len (x : Act) (k : Nat) : ((x.chs.take k).foldl wC (wA4 x)).1.length ≤ 10000 := by
  have h4 : (wA4 x).1.length ≤ 600 := by
    have h1 := pnL_len false (pnT (pnT (pnL false ([], false) [x.kind]) x.one) x.two) [(x.chs.length : Int)]
    have h2 := pnT_len (pnT (pnL false ([], false) [x.kind]) x.one) x.two
    have h3 := pnT_len (pnL false ([], false) [x.kind]) x.one
    have h5 := pnL_len false ([], false) [x.kind]
    unfold wA4
    simp only [List.length_singleton, List.length_nil] at h1 h2 h3 h5 ⊢
    omega
  by_cases ho : (wA4 x).2 = true
  · rw [(step_list wC okC pC step_C (x.chs.take k) (wA4 x)).1 ho]; omega
  · have hs : x.chs.length < 256 := pnS_small (st := pnT (pnT (pnL false ([], false) [x.kind]) x.one) x.two) (by rw [Bool.not_eq_true] at ho; exact ho)
    have h1 := wC_all (wA4 x) (x.chs.take k)
    have h2 : (x.chs.take k).length ≤ x.chs.length := by rw [List.length_take]; omega
    omega
def inI (n : Int) : Prop := -9223372036854775808 ≤ n ∧ n ≤ 9223372036854775807
end Go.Proofs.Ytcgpgflnihjpiag.M
