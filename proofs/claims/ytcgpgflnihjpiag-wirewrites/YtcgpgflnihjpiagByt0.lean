/- Plain facts on bytes: numbers, texts, acts and repos, written and read, with no program in sight. -/
import Derived.Test.YtcgpgflnihjpiagRepo0
import Derived.Test.YtcgpgflnihjpiagChgT
namespace Go.Proofs.Ytcgpgflnihjpiag.M

abbrev By := List UInt8
def b1 (n : Int) : UInt8 := UInt8.ofNat n.toNat
def b2 (n : Int) : By := [UInt8.ofNat (n.toNat / 256), UInt8.ofNat (n.toNat % 256)]
theorem b1_nat {n : Int} (h0 : 0 ≤ n) (h1 : n < 256) : ((b1 n).toNat : Int) = n := by
  unfold b1
  rw [UInt8.toNat_ofNat', Nat.mod_eq_of_lt (by omega)]
  omega
theorem b1_of (b : UInt8) : b1 (b.toNat : Int) = b := by
  unfold b1
  rw [Int.toNat_natCast]
  exact UInt8.ofNat_toNat

/-! ### reading -/
def rB : By → Option (Int × By)
  | [] => none
  | b :: t => some ((b.toNat : Int), t)
def r2 : By → Option (Int × By)
  | x :: y :: t => some (256 * (x.toNat : Int) + (y.toNat : Int), t)
  | _ => none
def rT : By → Option (By × By)
  | [] => none
  | b :: t => if b.toNat ≤ t.length then some (t.take b.toNat, t.drop b.toNat) else none
def rN {α : Type} (f : By → Option (α × By)) : Nat → By → Option (List α × By)
  | 0, l => some ([], l)
  | n + 1, l => match f l with
    | none => none
    | some (x, l1) => match rN f n l1 with
      | none => none
      | some (xs, l2) => some (x :: xs, l2)
def rL {α : Type} (f : By → Option (α × By)) (l : By) : Option (List α × By) := match rB l with
  | none => none
  | some (n, l1) => rN f n.toNat l1
theorem rN_snoc {α : Type} (f : By → Option (α × By)) (k : Nat) (l : By) : rN f (k + 1) l = match rN f k l with
    | none => none
    | some (xs, l1) => match f l1 with
      | none => none
      | some (x, l2) => some (xs ++ [x], l2) := by
  induction k generalizing l with
  | zero =>
    simp only [rN]
    cases f l with
    | none => rfl
    | some p => rfl
  | succ k ih =>
    rw [rN]
    conv => rhs; rw [rN]
    cases h : f l with
    | none => rfl
    | some p =>
      obtain ⟨x, l1⟩ := p
      simp only
      rw [ih l1]
      cases rN f k l1 with
      | none => rfl
      | some q =>
        obtain ⟨xs, l2⟩ := q
        simp only
        cases f l2 with
        | none => rfl
        | some q => rfl
theorem rN_none {α : Type} (f : By → Option (α × By)) (k n : Nat) (l : By) (h : rN f k l = none) (hk : k ≤ n) : rN f n l = none := by
  induction n with
  | zero => obtain rfl : k = 0 := by omega
            exact h
  | succ n ih =>
    by_cases e : k = n + 1
    · subst e; exact h
    · rw [rN_snoc, ih (by omega)]

/-! ### writing -/
def pT (s : By) : By := b1 s.length :: s
theorem rB_p {n : Int} (h0 : 0 ≤ n) (h1 : n < 256) (t : By) : rB (b1 n :: t) = some (n, t) := by
  show some (((b1 n).toNat : Int), t) = _
  rw [b1_nat h0 h1]
theorem rB_inv {l t : By} {n : Int} (h : rB l = some (n, t)) : l = b1 n :: t ∧ 0 ≤ n ∧ n < 256 := by
  cases l with
  | nil => simp [rB] at h
  | cons b u =>
    simp only [rB, Option.some.injEq, Prod.mk.injEq] at h
    obtain ⟨rfl, rfl⟩ := h
    refine ⟨by rw [b1_of], by omega, ?_⟩
    have := b.toNat_lt; omega
theorem r2_p {n : Int} (h0 : 0 ≤ n) (h1 : n < 65536) (t : By) : r2 (b2 n ++ t) = some (n, t) := by
  unfold b2 r2
  simp only [List.cons_append, List.nil_append, Option.some.injEq, Prod.mk.injEq, and_true]
  rw [UInt8.toNat_ofNat', UInt8.toNat_ofNat', Nat.mod_eq_of_lt (a := n.toNat / 256) (by omega), Nat.mod_eq_of_lt (a := n.toNat % 256) (by omega)]
  omega
theorem r2_inv {l t : By} {n : Int} (h : r2 l = some (n, t)) : l = b2 n ++ t ∧ 0 ≤ n ∧ n < 65536 := by
  match l, h with
  | [], h => simp [r2] at h
  | [x], h => simp [r2] at h
  | x :: y :: u, h =>
    simp only [r2, Option.some.injEq, Prod.mk.injEq] at h
    obtain ⟨rfl, rfl⟩ := h
    have hx := x.toNat_lt
    have hy := y.toNat_lt
    refine ⟨?_, by omega, by omega⟩
    unfold b2
    rw [show (256 * (x.toNat : Int) + (y.toNat : Int)).toNat / 256 = x.toNat by omega, show (256 * (x.toNat : Int) + (y.toNat : Int)).toNat % 256 = y.toNat by omega, UInt8.ofNat_toNat, UInt8.ofNat_toNat]
    rfl
theorem rT_p {s : By} (h : s.length < 256) (t : By) : rT (pT s ++ t) = some (s, t) := by
  unfold pT rT
  have e : (b1 (s.length : Int)).toNat = s.length := by have := b1_nat (n := (s.length : Int)) (by omega) (by omega); omega
  simp only [List.cons_append]
  rw [e, if_pos (by simp), List.take_left, List.drop_left]
theorem rT_inv {l t s : By} (h : rT l = some (s, t)) : l = pT s ++ t ∧ s.length < 256 := by
  cases l with
  | nil => simp [rT] at h
  | cons b u =>
    rw [rT] at h
    split at h
    · rename_i hb
      simp only [Option.some.injEq, Prod.mk.injEq] at h
      obtain ⟨rfl, rfl⟩ := h
      have hl : (u.take b.toNat).length = b.toNat := by rw [List.length_take]; omega
      refine ⟨?_, by rw [hl]; exact b.toNat_lt⟩
      unfold pT
      rw [hl, b1_of, List.cons_append, List.take_append_drop]
    · simp at h
theorem rN_p {α : Type} {f : By → Option (α × By)} {p : α → By} (xs : List α) (h : ∀ x ∈ xs, ∀ t, f (p x ++ t) = some (x, t)) (t : By) : rN f xs.length (xs.flatMap p ++ t) = some (xs, t) := by
  induction xs with
  | nil => rfl
  | cons x xs ih =>
    rw [List.flatMap_cons, List.length_cons, rN, List.append_assoc, h x (by simp)]
    simp only
    rw [ih (fun y hy => h y (by simp [hy]))]
theorem rN_inv {α : Type} {f : By → Option (α × By)} {p : α → By} {q : α → Prop} (h : ∀ l x t, f l = some (x, t) → l = p x ++ t ∧ q x) : ∀ (n : Nat) (l : By) (xs : List α) (t : By), rN f n l = some (xs, t) → l = xs.flatMap p ++ t ∧ xs.length = n ∧ ∀ x ∈ xs, q x
  | 0, l, xs, t, hh => by
    simp only [rN, Option.some.injEq, Prod.mk.injEq] at hh
    obtain ⟨rfl, rfl⟩ := hh
    exact ⟨rfl, rfl, fun x hx => by simp at hx⟩
  | n + 1, l, xs, t, hh => by
    rw [rN] at hh
    split at hh
    · simp at hh
    · rename_i x l1 hx
      split at hh
      · simp at hh
      · rename_i ys l2 hy
        simp only [Option.some.injEq, Prod.mk.injEq] at hh
        obtain ⟨rfl, rfl⟩ := hh
        obtain ⟨e1, q1⟩ := h _ _ _ hx
        obtain ⟨e2, l3, q2⟩ := rN_inv h n _ _ _ hy
        refine ⟨by rw [e1, e2, List.flatMap_cons, List.append_assoc], by simp [l3], fun y hy => ?_⟩
        rcases List.mem_cons.1 hy with rfl | hy
        · exact q1
        · exact q2 y hy
def pL {α : Type} (p : α → By) (xs : List α) : By := b1 xs.length :: xs.flatMap p
theorem rL_p {α : Type} {f : By → Option (α × By)} {p : α → By} (xs : List α) (hl : xs.length < 256) (h : ∀ x ∈ xs, ∀ t, f (p x ++ t) = some (x, t)) (t : By) : rL f (pL p xs ++ t) = some (xs, t) := by
  unfold rL pL
  rw [List.cons_append, rB_p (by omega) (by omega)]
  simp only
  rw [Int.toNat_natCast, rN_p xs h t]
theorem rL_inv {α : Type} {f : By → Option (α × By)} {p : α → By} {q : α → Prop} (h : ∀ l x t, f l = some (x, t) → l = p x ++ t ∧ q x) {l t : By} {xs : List α} (hh : rL f l = some (xs, t)) : l = pL p xs ++ t ∧ xs.length < 256 ∧ ∀ x ∈ xs, q x := by
  unfold rL at hh
  split at hh
  · simp at hh
  · rename_i n l1 hB
    obtain ⟨e1, n0, n1⟩ := rB_inv hB
    obtain ⟨e2, hl, hq⟩ := rN_inv h _ _ _ _ hh
    refine ⟨?_, by omega, hq⟩
    unfold pL
    rw [e1, e2, hl, Int.toNat_of_nonneg n0, List.cons_append]

/-! ### acts -/
structure Act where
  kind : Int
  one : By
  two : By
  chs : List Chg
def pC (c : Chg) : By := b1 c.1 :: (b2 (c.2.1 + 1) ++ b2 (c.2.2 + 1))
def pA (x : Act) : By := b1 x.kind :: (pT x.one ++ (pT x.two ++ pL pC x.chs))
def rC (l : By) : Option (Chg × By) := match rB l with
  | none => none
  | some (k, l1) => match r2 l1 with
    | none => none
    | some (o, l2) => match r2 l2 with
      | none => none
      | some (n, l3) => some ((k, o - 1, n - 1), l3)
def rA (l : By) : Option (Act × By) := match rB l with
  | none => none
  | some (k, l1) => match rT l1 with
    | none => none
    | some (o, l2) => match rT l2 with
      | none => none
      | some (n, l3) => match rL rC l3 with
        | none => none
        | some (c, l4) => some (⟨k, o, n, c⟩, l4)
def okC (c : Chg) : Prop := 0 ≤ c.1 ∧ c.1 < 256 ∧ 0 ≤ c.2.1 + 1 ∧ c.2.1 + 1 < 65536 ∧ 0 ≤ c.2.2 + 1 ∧ c.2.2 + 1 < 65536
def okA (x : Act) : Prop := (0 ≤ x.kind ∧ x.kind < 256) ∧ x.one.length < 256 ∧ x.two.length < 256 ∧ x.chs.length < 256 ∧ ∀ c ∈ x.chs, okC c
theorem rC_p {c : Chg} (h : okC c) (t : By) : rC (pC c ++ t) = some (c, t) := by
  obtain ⟨h1, h2, h3, h4, h5, h6⟩ := h
  unfold rC pC
  rw [List.cons_append, rB_p h1 h2, List.append_assoc]
  simp only
  rw [r2_p h3 h4]
  simp only
  rw [r2_p h5 h6]
  simp
theorem rC_inv {l t : By} {c : Chg} (h : rC l = some (c, t)) : l = pC c ++ t ∧ okC c := by
  unfold rC at h
  split at h
  · simp at h
  · rename_i k l1 e1
    split at h
    · simp at h
    · rename_i o l2 e2
      split at h
      · simp at h
      · rename_i n l3 e3
        simp only [Option.some.injEq, Prod.mk.injEq] at h
        obtain ⟨rfl, rfl⟩ := h
        obtain ⟨a1, a2, a3⟩ := rB_inv e1
        obtain ⟨c1, c2, c3⟩ := r2_inv e2
        obtain ⟨d1, d2, d3⟩ := r2_inv e3
        refine ⟨?_, a2, a3, by show 0 ≤ o - 1 + 1; omega, by show o - 1 + 1 < 65536; omega, by show 0 ≤ n - 1 + 1; omega, by show n - 1 + 1 < 65536; omega⟩
        unfold pC
        simp only
        rw [a1, c1, d1, Int.sub_add_cancel, Int.sub_add_cancel, List.cons_append, List.append_assoc]
theorem rA_p {x : Act} (h : okA x) (t : By) : rA (pA x ++ t) = some (x, t) := by
  obtain ⟨⟨h1, h2⟩, h3, h4, h5, h6⟩ := h
  unfold rA pA
  rw [List.cons_append, rB_p h1 h2]
  simp only
  rw [List.append_assoc, rT_p h3]
  simp only
  rw [List.append_assoc, rT_p h4]
  simp only
  rw [rL_p x.chs h5 (fun c hc => rC_p (h6 c hc))]
theorem rA_inv {l t : By} {x : Act} (h : rA l = some (x, t)) : l = pA x ++ t ∧ okA x := by
  unfold rA at h
  split at h
  · simp at h
  · rename_i k l1 e1
    split at h
    · simp at h
    · rename_i o l2 e2
      split at h
      · simp at h
      · rename_i n l3 e3
        split at h
        · simp at h
        · rename_i c l4 e4
          simp only [Option.some.injEq, Prod.mk.injEq] at h
          obtain ⟨rfl, rfl⟩ := h
          obtain ⟨a1, a2, a3⟩ := rB_inv e1
          obtain ⟨c1, c2⟩ := rT_inv e2
          obtain ⟨d1, d2⟩ := rT_inv e3
          obtain ⟨f1, f2, f3⟩ := rL_inv (fun _ _ _ => rC_inv) e4
          refine ⟨?_, ⟨a2, a3⟩, c2, d2, f2, f3⟩
          unfold pA
          simp only
          rw [a1, c1, d1, f1]
          simp [List.append_assoc]

/-! ### repos -/
def pR (r : Int × Int) : By := b1 r.1 :: b2 r.2
def pCo (c : Com) : By := pL pR c.1 ++ pL (fun p => [b1 p]) c.2
def pHd (h : By × Int) : By := pT h.1 ++ [b1 h.2]
def pRe (r : List Com × List (By × Int)) : By := pL pCo r.1 ++ pL pHd r.2
def rR (l : By) : Option ((Int × Int) × By) := match rB l with
  | none => none
  | some (k, l1) => match r2 l1 with
    | none => none
    | some (v, l2) => some ((k, v), l2)
def rCo (l : By) : Option (Com × By) := match rL rR l with
  | none => none
  | some (r, l1) => match rL rB l1 with
    | none => none
    | some (p, l2) => some ((r, p), l2)
def rHd (l : By) : Option ((By × Int) × By) := match rT l with
  | none => none
  | some (n, l1) => match rB l1 with
    | none => none
    | some (a, l2) => some ((n, a), l2)
def rRe (l : By) : Option ((List Com × List (By × Int)) × By) := match rL rCo l with
  | none => none
  | some (c, l1) => match rL rHd l1 with
    | none => none
    | some (h, l2) => some ((c, h), l2)
def okB (n : Int) : Prop := 0 ≤ n ∧ n < 256
def okR (r : Int × Int) : Prop := okB r.1 ∧ 0 ≤ r.2 ∧ r.2 < 65536
def okCo (c : Com) : Prop := (c.1.length < 256 ∧ ∀ r ∈ c.1, okR r) ∧ c.2.length < 256 ∧ ∀ p ∈ c.2, okB p
def okHd (h : By × Int) : Prop := h.1.length < 256 ∧ okB h.2
def okRe (r : List Com × List (By × Int)) : Prop := (r.1.length < 256 ∧ ∀ c ∈ r.1, okCo c) ∧ r.2.length < 256 ∧ ∀ h ∈ r.2, okHd h
theorem rR_p {r : Int × Int} (h : okR r) (t : By) : rR (pR r ++ t) = some (r, t) := by
  obtain ⟨⟨h1, h2⟩, h3, h4⟩ := h
  unfold rR pR
  rw [List.cons_append, rB_p h1 h2]
  simp only
  rw [r2_p h3 h4]
theorem rR_inv {l t : By} {r : Int × Int} (h : rR l = some (r, t)) : l = pR r ++ t ∧ okR r := by
  unfold rR at h
  split at h
  · simp at h
  · rename_i k l1 e1
    split at h
    · simp at h
    · rename_i o l2 e2
      simp only [Option.some.injEq, Prod.mk.injEq] at h
      obtain ⟨rfl, rfl⟩ := h
      obtain ⟨a1, a2, a3⟩ := rB_inv e1
      obtain ⟨c1, c2, c3⟩ := r2_inv e2
      refine ⟨?_, ⟨a2, a3⟩, c2, c3⟩
      unfold pR
      simp only
      rw [a1, c1, List.cons_append]
theorem rBs_p {n : Int} (h : okB n) (t : By) : rB ([b1 n] ++ t) = some (n, t) := rB_p h.1 h.2 t
theorem rBs_inv {l t : By} {n : Int} (h : rB l = some (n, t)) : l = [b1 n] ++ t ∧ okB n := by
  obtain ⟨a1, a2, a3⟩ := rB_inv h
  exact ⟨a1, a2, a3⟩
theorem rCo_p {c : Com} (h : okCo c) (t : By) : rCo (pCo c ++ t) = some (c, t) := by
  obtain ⟨⟨h1, h2⟩, h3, h4⟩ := h
  unfold rCo pCo
  rw [List.append_assoc, rL_p c.1 h1 (fun r hr => rR_p (h2 r hr))]
  simp only
  rw [rL_p c.2 h3 (fun p hp => rBs_p (h4 p hp))]
theorem rCo_inv {l t : By} {c : Com} (h : rCo l = some (c, t)) : l = pCo c ++ t ∧ okCo c := by
  unfold rCo at h
  split at h
  · simp at h
  · rename_i r l1 e1
    split at h
    · simp at h
    · rename_i p l2 e2
      simp only [Option.some.injEq, Prod.mk.injEq] at h
      obtain ⟨rfl, rfl⟩ := h
      obtain ⟨a1, a2, a3⟩ := rL_inv (fun _ _ _ => rR_inv) e1
      obtain ⟨c1, c2, c3⟩ := rL_inv (fun _ _ _ => rBs_inv) e2
      refine ⟨?_, ⟨a2, a3⟩, c2, c3⟩
      unfold pCo
      simp only
      rw [a1, c1, List.append_assoc]
theorem rHd_p {h : By × Int} (hk : okHd h) (t : By) : rHd (pHd h ++ t) = some (h, t) := by
  obtain ⟨h1, h2⟩ := hk
  unfold rHd pHd
  rw [List.append_assoc, rT_p h1]
  simp only
  rw [rBs_p h2]
theorem rHd_inv {l t : By} {h : By × Int} (hh : rHd l = some (h, t)) : l = pHd h ++ t ∧ okHd h := by
  unfold rHd at hh
  split at hh
  · simp at hh
  · rename_i n l1 e1
    split at hh
    · simp at hh
    · rename_i a l2 e2
      simp only [Option.some.injEq, Prod.mk.injEq] at hh
      obtain ⟨rfl, rfl⟩ := hh
      obtain ⟨a1, a2⟩ := rT_inv e1
      obtain ⟨c1, c2⟩ := rBs_inv e2
      refine ⟨?_, a2, c2⟩
      unfold pHd
      simp only
      rw [a1, c1, List.append_assoc]
theorem rRe_p {r : List Com × List (By × Int)} (h : okRe r) (t : By) : rRe (pRe r ++ t) = some (r, t) := by
  obtain ⟨⟨h1, h2⟩, h3, h4⟩ := h
  unfold rRe pRe
  rw [List.append_assoc, rL_p r.1 h1 (fun c hc => rCo_p (h2 c hc))]
  simp only
  rw [rL_p r.2 h3 (fun p hp => rHd_p (h4 p hp))]
theorem rRe_inv {l t : By} {r : List Com × List (By × Int)} (h : rRe l = some (r, t)) : l = pRe r ++ t ∧ okRe r := by
  unfold rRe at h
  split at h
  · simp at h
  · rename_i c l1 e1
    split at h
    · simp at h
    · rename_i hs l2 e2
      simp only [Option.some.injEq, Prod.mk.injEq] at h
      obtain ⟨rfl, rfl⟩ := h
      obtain ⟨a1, a2, a3⟩ := rL_inv (fun _ _ _ => rCo_inv) e1
      obtain ⟨c1, c2, c3⟩ := rL_inv (fun _ _ _ => rHd_inv) e2
      refine ⟨?_, ⟨a2, a3⟩, c2, c3⟩
      unfold pRe
      simp only
      rw [a1, c1, List.append_assoc]
end Go.Proofs.Ytcgpgflnihjpiag.M
