/- Plain facts on repos that are read with noughts for what is not there, with no program in sight. -/
import Derived.Test.YtcgpgflnihjpiagByt0
namespace Go.Proofs.Ytcgpgflnihjpiag.M

def eB : By → Int × By
  | [] => (0, [])
  | b :: t => ((b.toNat : Int), t)
def e2 (l : By) : Int × By := (256 * (eB l).1 + (eB (eB l).2).1, (eB (eB l).2).2)
def eN {α : Type} (f : By → α × By) : Nat → By → List α × By
  | 0, l => ([], l)
  | n + 1, l => ((f l).1 :: (eN f n (f l).2).1, (eN f n (f l).2).2)
def eL {α : Type} (f : By → α × By) (l : By) : List α × By := eN f (eB l).1.toNat (eB l).2
def eR (l : By) : (Int × Int) × By := (((eB l).1, (e2 (eB l).2).1), (e2 (eB l).2).2)
def eCo (l : By) : Com × By := (((eL eR l).1, (eL eB (eL eR l).2).1), (eL eB (eL eR l).2).2)
/-- A text: as much of it as there is. -/
def eT (l : By) : By × By := ((eB l).2.take (eB l).1.toNat, (eB l).2.drop (eB l).1.toNat)
def eHd (l : By) : (By × Int) × By := (((eT l).1, (eB (eT l).2).1), (eB (eT l).2).2)
def eRe (l : By) : (List Com × List (By × Int)) × By := (((eL eCo l).1, (eL eHd (eL eCo l).2).1), (eL eHd (eL eCo l).2).2)
theorem eN_snoc {α : Type} (f : By → α × By) (k : Nat) (l : By) : eN f (k + 1) l = ((eN f k l).1 ++ [(f (eN f k l).2).1], (f (eN f k l).2).2) := by
  induction k generalizing l with
  | zero => rfl
  | succ k ih =>
    rw [eN]
    conv => rhs; rw [eN]
    rw [ih]
    rfl
theorem eB_len (l : By) : (eB l).2.length ≤ l.length := by
  cases l with
  | nil => simp [eB]
  | cons b t => simp [eB]
theorem eB_range (l : By) : 0 ≤ (eB l).1 ∧ (eB l).1 < 256 := by
  cases l with
  | nil => simp [eB]
  | cons b t => have := b.toNat_lt; simp [eB]; omega
theorem eN_len {α : Type} (f : By → α × By) (k : Nat) (l : By) : (eN f k l).1.length = k := by
  induction k generalizing l with
  | zero => rfl
  | succ k ih => rw [eN]; simp [ih]
theorem eB_r {l t : By} {n : Int} (h : rB l = some (n, t)) : eB l = (n, t) := by
  cases l with
  | nil => simp [rB] at h
  | cons b u => simpa [rB, eB] using h
theorem e2_r {l t : By} {n : Int} (h : r2 l = some (n, t)) : e2 l = (n, t) := by
  match l, h with
  | [], h => simp [r2] at h
  | [x], h => simp [r2] at h
  | x :: y :: u, h => simpa [r2, e2, eB] using h
theorem eN_r {α : Type} {f : By → Option (α × By)} {g : By → α × By} (h : ∀ l x t, f l = some (x, t) → g l = (x, t)) : ∀ (n : Nat) (l : By) (xs : List α) (t : By), rN f n l = some (xs, t) → eN g n l = (xs, t)
  | 0, l, xs, t, hh => by simpa [rN, eN, eq_comm] using hh
  | n + 1, l, xs, t, hh => by
    rw [rN] at hh
    split at hh
    · simp at hh
    · rename_i x l1 hx
      split at hh
      · simp at hh
      · rename_i ys l2 hy
        simp only [Option.some.injEq, Prod.mk.injEq] at hh
        obtain ⟨rfl, rfl⟩ := hh
        rw [eN, h _ _ _ hx]
        simp only
        rw [eN_r h n _ _ _ hy]
theorem eL_r {α : Type} {f : By → Option (α × By)} {g : By → α × By} (h : ∀ l x t, f l = some (x, t) → g l = (x, t)) {l t : By} {xs : List α} (hh : rL f l = some (xs, t)) : eL g l = (xs, t) := by
  unfold rL at hh
  split at hh
  · simp at hh
  · rename_i n l1 hB
    unfold eL
    rw [eB_r hB]
    exact eN_r h _ _ _ _ hh
theorem eR_r {l t : By} {r : Int × Int} (h : rR l = some (r, t)) : eR l = (r, t) := by
  unfold rR at h
  split at h
  · simp at h
  · rename_i k l1 h1
    split at h
    · simp at h
    · rename_i o l2 h2
      simp only [Option.some.injEq, Prod.mk.injEq] at h
      obtain ⟨rfl, rfl⟩ := h
      unfold eR
      rw [eB_r h1]
      simp only
      rw [e2_r h2]
theorem eCo_r {l t : By} {c : Com} (h : rCo l = some (c, t)) : eCo l = (c, t) := by
  unfold rCo at h
  split at h
  · simp at h
  · rename_i k l1 h1
    split at h
    · simp at h
    · rename_i o l2 h2
      simp only [Option.some.injEq, Prod.mk.injEq] at h
      obtain ⟨rfl, rfl⟩ := h
      unfold eCo
      rw [eL_r (fun _ _ _ => eR_r) h1]
      simp only
      rw [eL_r (fun _ _ _ => eB_r) h2]
theorem eT_r {l t s : By} (h : rT l = some (s, t)) : eT l = (s, t) := by
  cases l with
  | nil => simp [rT] at h
  | cons b u =>
    rw [rT] at h
    split at h
    · simpa [eT, eB] using h
    · simp at h
theorem eHd_r {l t : By} {x : By × Int} (h : rHd l = some (x, t)) : eHd l = (x, t) := by
  unfold rHd at h
  split at h
  · simp at h
  · rename_i k l1 h1
    split at h
    · simp at h
    · rename_i o l2 h2
      simp only [Option.some.injEq, Prod.mk.injEq] at h
      obtain ⟨rfl, rfl⟩ := h
      unfold eHd
      rw [eT_r h1]
      simp only
      rw [eB_r h2]
theorem eRe_r {l t : By} {x : List Com × List (By × Int)} (h : rRe l = some (x, t)) : eRe l = (x, t) := by
  unfold rRe at h
  split at h
  · simp at h
  · rename_i k l1 h1
    split at h
    · simp at h
    · rename_i o l2 h2
      simp only [Option.some.injEq, Prod.mk.injEq] at h
      obtain ⟨rfl, rfl⟩ := h
      unfold eRe
      rw [eL_r (fun _ _ _ => eCo_r) h1]
      simp only
      rw [eL_r (fun _ _ _ => eHd_r) h2]

/-! ### heads' names as bytes -/
def hdB (h : Hd) : By × Int := (h.1.data.toList, h.2)
def hdS (h : By × Int) : Hd := (⟨h.1.toArray⟩, h.2)
theorem hdS_B (h : Hd) : hdS (hdB h) = h := by obtain ⟨⟨a⟩, n⟩ := h; simp [hdS, hdB]
theorem hdB_S (h : By × Int) : hdB (hdS h) = h := by obtain ⟨a, n⟩ := h; simp [hdS, hdB]
/-- The bytes of a repo. -/
def bytesR (C : List Com) (H : List Hd) : By := pRe (C, H.map hdB)
theorem right_ok {C : List Com} {H : List Hd} (h : rchk C H = 0) : okRe (C, H.map hdB) := by
  obtain ⟨a1, a2, a3, a4, a5⟩ := rchk_zero h
  obtain ⟨c1, c2⟩ := dchk_zero a1
  refine ⟨⟨by show C.length < 256; omega, fun c hc => ?_⟩, by simp; omega, fun x hx => ?_⟩
  · obtain ⟨i, hi, e⟩ := List.getElem_of_mem hc
    have hi : i < C.length := hi
    have := c2 i hi
    rw [show C.getD i ([], []) = c by simp [List.getD, hi, e]] at this
    obtain ⟨z1, z2, z3⟩ := this
    obtain ⟨z4, z5⟩ := (chk_zero c.1).1 z1
    refine ⟨⟨by omega, fun r hr => ?_⟩, by omega, fun p hp => ?_⟩
    · have := z5.1 r hr
      exact ⟨⟨by omega, by omega⟩, by omega, by omega⟩
    · have := z3 p hp
      exact ⟨by omega, by omega⟩
  · obtain ⟨y, hy, rfl⟩ := List.mem_map.1 hx
    have n1 : nam y.1 = true := by
      unfold named at a3; rw [List.all_eq_true] at a3; exact a3 y hy
    have n2 : y.1.size ≤ 8 := by
      by_cases h8 : 8 < y.1.size
      · rw [nam_long _ h8] at n1; simp at n1
      · omega
    obtain ⟨i, hi, e⟩ := List.getElem_of_mem hy
    have := inside_at a4 i hi
    rw [show H.getD i hd0 = y by simp [List.getD, hi, e]] at this
    refine ⟨?_, by show 0 ≤ y.2; omega, by show y.2 < 256; omega⟩
    show y.1.data.toList.length < 256
    rw [Array.length_toList]
    show y.1.size < 256
    omega
/-- The repo that a text is; none: there is none. -/
def readR (l : By) : Option (List Com × List Hd) := match rRe l with
  | some (x, []) => if rchk x.1 (x.2.map hdS) = 0 then some (x.1, x.2.map hdS) else none
  | _ => none
theorem map_SB (H : List Hd) : (H.map hdB).map hdS = H := by
  rw [List.map_map]
  conv => rhs; rw [← List.map_id H]
  exact List.map_congr_left fun h _ => hdS_B h
theorem map_BS (H : List (By × Int)) : (H.map hdS).map hdB = H := by
  rw [List.map_map]
  conv => rhs; rw [← List.map_id H]
  exact List.map_congr_left fun h _ => hdB_S h
theorem readR_p {C : List Com} {H : List Hd} (h : rchk C H = 0) : readR (bytesR C H) = some (C, H) := by
  unfold readR bytesR
  have := rRe_p (right_ok h) []
  rw [List.append_nil] at this
  rw [this]
  simp only
  rw [map_SB, if_pos h]
theorem readR_inv {l : By} {C : List Com} {H : List Hd} (h : readR l = some (C, H)) : l = bytesR C H ∧ rchk C H = 0 := by
  unfold readR at h
  split at h
  · rename_i x e
    split at h
    · rename_i hr
      simp only [Option.some.injEq, Prod.mk.injEq] at h
      obtain ⟨rfl, rfl⟩ := h
      refine ⟨?_, hr⟩
      unfold bytesR
      rw [map_BS, (rRe_inv e).1, List.append_nil]
    · simp at h
  · simp at h
/-- Read with noughts, and written again. -/
theorem readR_e (l : By) : readR l = if rchk (eRe l).1.1 ((eRe l).1.2.map hdS) = 0 ∧ bytesR (eRe l).1.1 ((eRe l).1.2.map hdS) = l then some ((eRe l).1.1, (eRe l).1.2.map hdS) else none := by
  cases e : readR l with
  | some x =>
    obtain ⟨C, H⟩ := x
    obtain ⟨h1, h2⟩ := readR_inv e
    unfold readR at e
    split at e
    · rename_i x ex
      have := eRe_r ex
      split at e
      · simp only [Option.some.injEq, Prod.mk.injEq] at e
        obtain ⟨rfl, rfl⟩ := e
        rw [this]
        rw [if_pos ⟨h2, h1.symm⟩]
      · simp at e
    · simp at e
  | none =>
    split
    · rename_i h
      have := readR_p h.1
      rw [h.2, e] at this
      simp at this
    · rfl
end Go.Proofs.Ytcgpgflnihjpiag.M
