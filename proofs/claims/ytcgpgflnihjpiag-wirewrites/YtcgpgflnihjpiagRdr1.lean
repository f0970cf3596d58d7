/- The reader of bytes: take, Byte, Pair, Text. -/
import Derived.Test.YtcgpgflnihjpiagOwn2
import Derived.Test.YtcgpgflnihjpiagByt3
import Derived.WalkLawsBesides
import Derived.Laws.Panics
namespace Go.Proofs.Ytcgpgflnihjpiag
open Go.RowKit

/-- All but the block b is as it was. -/
def But (b : Nat) (w w' : World) : Prop := w.grownBy w' (some b)
theorem But.refl (b : Nat) (w : World) : But b w w := ⟨rfl, rfl, rfl, Nat.le_refl _, fun _ _ _ => rfl⟩
theorem But.trans {b : Nat} {w1 w2 w3 : World} (h : But b w1 w2) (k : But b w2 w3) : But b w1 w3 :=
  ⟨k.os.trans h.os, k.tape.trans h.tape, k.output.trans h.output, Nat.le_trans h.size k.size, fun i hi hne => (k.block i (Nat.lt_of_lt_of_le hi h.size) hne).trans (h.block i hi hne)⟩
theorem But.below {b : Nat} {w w' : World} (h : But b w w') (hb : b ≤ w.heap.size) : Below b w w' := ⟨h.os, h.tape, h.output, h.size, fun k hk => h.block k (by omega) (fun e => by cases e; omega)⟩
theorem But.of {b : Nat} {w w' : World} (h : Below w.heap.size w w') : But b w w' := ⟨h.os, h.tape, h.output, h.size, fun k hk _ => h.block k hk⟩
theorem But.set (b o : Nat) (w : World) (v : Value) : But b w (w.setCell ⟨b, o, none⟩ v) := grownBy_set w ⟨b, o, none⟩ v
/-- What is left to be read lies in the block b. -/
def RdAt (w : World) (b : Nat) (l : M.By) : Prop := w.heap[b]? = some (.cells #[.string (M.str l)] 76 (0, 0)) ∧ l.length ≤ 9223372036854775807
theorem RdAt.cell {w : World} {b : Nat} {l : M.By} (h : RdAt w b l) : w.cell? ⟨b, 0, none⟩ = some (.string (M.str l)) := by rw [cell_of_row _ _ _ _ _ _ h.1]; rfl
theorem RdAt.fr {w : World} {b : Nat} {l : M.By} (h : RdAt w b l) : w.frozen? ⟨b, 0, none⟩ = false := frozen_of_row _ _ _ _ _ h.1
theorem RdAt.lt {w : World} {b : Nat} {l : M.By} (h : RdAt w b l) : b < w.heap.size := (Array.getElem?_eq_some_iff.1 h.1).1
theorem RdAt.set {w : World} {b : Nat} {l : M.By} (h : RdAt w b l) (l' : M.By) (hl : l'.length ≤ l.length) : RdAt (w.setCell ⟨b, 0, none⟩ (.string (M.str l'))) b l' := ⟨by rw [heap_setCell_same _ _ _ _ _ _ h.1]; rfl, by have := h.2; omega⟩
theorem RdAt.later {w w' : World} {b : Nat} {l : M.By} (h : RdAt w b l) (hb : Below w.heap.size w w') : RdAt w' b l := ⟨(hb.block b h.lt).trans h.1, h.2⟩
/-- It ends too early. -/
def early : Ending := .panicked [{ v := .iface 26 (.int .i64 1), recovered := false }]

set_option maxHeartbeats 2000000 in
theorem take_any (b n : Nat) (l : M.By) (w : World) (h : RdAt w b l) :
    Calls Try.prog 58 #[.pointer (some ⟨b, 0, none⟩), .int .i64 (n : Int)] w fun e w' => But b w w' ∧ ((n ≤ l.length ∧ e = .returned (.string (M.str (l.take n))) ∧ RdAt w' b (l.drop n)) ∨ (l.length < n ∧ e = early)) := by
  obtain ⟨s, hs⟩ : ∃ s, s = M.str l := ⟨_, rfl⟩
  obtain ⟨m, hm⟩ : ∃ m, m = l.length := ⟨_, rfl⟩
  have hsz : s.size = m := by rw [hs, M.str_size, hm]
  have c0 := h.cell
  have f0 := h.fr
  rw [← hs] at c0
  by_cases hn : n ≤ l.length
  · have e1 : s.extract 0 n = M.str (l.take n) := by rw [hs, M.str_take]
    have e2 : s.extract n m = M.str (l.drop n) := by rw [hs, M.str_drop l n m hm]
    have h1 : decide ((m : Int) < (n : Int)) = false := by simp; omega
    have h2 : (n : Int) ≤ (m : Int) := by omega
    have HR : Hid (RdAt (w.setCell ⟨b, 0, none⟩ (.string (M.str (l.drop n)))) b (l.drop n)) := h.set _ (by simp)
    have HN : Hid (n ≤ l.length) := hn
    clear h hs hm hn
    go_enter Try.func58, Try.ntmps58
    go_wp2
    go_ret
    exact ⟨But.set _ _ _ _, Or.inl ⟨HN.out, rfl, HR.out⟩⟩
  · have h1 : decide ((m : Int) < (n : Int)) = true := by simp; omega
    have h2 : (m : Int) < (n : Int) := by omega
    have HN : Hid (l.length < n) := by unfold Hid; omega
    clear h hs hm hn
    go_enter Try.func58, Try.ntmps58
    go_wp2
    exact ⟨rfl, But.refl _ _, Or.inr ⟨HN.out, rfl⟩⟩

/-- What is read, and what is left. -/
def Reads {α : Type} (b : Nat) (w w' : World) (r : Option (α × M.By)) (val : α → Value → World → Prop) (e : Ending) : Prop :=
  But b w w' ∧ ((∃ x t v, r = some (x, t) ∧ e = .returned v ∧ val x v w' ∧ RdAt w' b t) ∨ (r = none ∧ e = early))
def isInt (k : Int) (v : Value) (_ : World) : Prop := v = .int .i64 k
def isStr (l : M.By) (v : Value) (_ : World) : Prop := v = .string (M.str l)

set_option maxHeartbeats 2000000 in
theorem byte_any (b : Nat) (l : M.By) (w : World) (h : RdAt w b l) :
    Calls Try.prog 50 #[.pointer (some ⟨b, 0, none⟩)] w fun e w' => Reads b w w' (M.rB l) isInt e := by
  have K : Hid (Calls Try.prog 58 #[.pointer (some ⟨b, 0, none⟩), .int .i64 1] w fun e w' => But b w w' ∧ ((1 ≤ l.length ∧ e = .returned (.string (M.str (l.take 1))) ∧ RdAt w' b (l.drop 1)) ∨ (l.length < 1 ∧ e = early))) := take_any b 1 l w h
  clear h
  cases l with
  | nil =>
    go_enter Try.func50, Try.ntmps50
    go_wp2_with fail
    refine K.out.mono ?_
    rintro e w1 ⟨hb, ⟨h1, _⟩ | ⟨_, rfl⟩⟩
    · simp at h1
    · unfold early
      go_wp2
      exact ⟨rfl, hb, Or.inr ⟨rfl, rfl⟩⟩
  | cons x t =>
    have e1 : M.str ((x :: t).take 1) = ⟨#[x]⟩ := rfl
    rw [e1] at K
    have hx : wrap64 (x.toNat : Int) = (x.toNat : Int) := by have := x.toNat_lt; unfold wrap64; omega
    have HX : Hid (wrap64 (x.toNat : Int) = (x.toNat : Int)) := hx
    clear hx
    go_enter Try.func50, Try.ntmps50
    go_wp2_with fail
    refine K.out.mono ?_
    rintro e w1 ⟨hb, ⟨_, rfl, hr⟩ | ⟨h1, _⟩⟩
    · have HR : Hid (RdAt w1 b t) := hr
      clear hr
      go_wp2
      go_ret
      exact ⟨hb, Or.inl ⟨_, t, _, rfl, rfl, congrArg (Value.int .i64) HX.out, HR.out⟩⟩
    · simp at h1
theorem M.rB_range {l t : M.By} {k : Int} (h : M.rB l = some (k, t)) : 0 ≤ k ∧ k < 256 := (M.rB_inv h).2
theorem M.r2_yes {l t u : M.By} {k j : Int} (h : M.rB l = some (k, t)) (h2 : M.rB t = some (j, u)) : M.r2 l = some (256 * k + j, u) := by
  match l, t, h, h2 with
  | x :: y :: v, _, h, h2 =>
    simp only [M.rB, Option.some.injEq, Prod.mk.injEq] at h
    obtain ⟨rfl, rfl⟩ := h
    simp only [M.rB, Option.some.injEq, Prod.mk.injEq] at h2
    obtain ⟨rfl, rfl⟩ := h2
    rfl
  | [x], _, h, h2 =>
    simp only [M.rB, Option.some.injEq, Prod.mk.injEq] at h
    obtain ⟨rfl, rfl⟩ := h
    simp [M.rB] at h2
  | [], _, h, _ => simp [M.rB] at h
theorem M.r2_no1 {l : M.By} (h : M.rB l = none) : M.r2 l = none := by
  cases l with
  | nil => rfl
  | cons x t => simp [M.rB] at h
theorem M.r2_no2 {l t : M.By} {k : Int} (h : M.rB l = some (k, t)) (h2 : M.rB t = none) : M.r2 l = none := by
  match l, h with
  | x :: y :: v, h =>
    simp only [M.rB, Option.some.injEq, Prod.mk.injEq] at h
    obtain ⟨rfl, rfl⟩ := h
    simp [M.rB] at h2
  | [x], _ => rfl
  | [], h => simp [M.rB] at h
theorem M.rT_yes {l t : M.By} {k : Int} (h : M.rB l = some (k, t)) : M.rT l = if k.toNat ≤ t.length then some (t.take k.toNat, t.drop k.toNat) else none := by
  cases l with
  | nil => simp [M.rB] at h
  | cons x u =>
    simp only [M.rB, Option.some.injEq, Prod.mk.injEq] at h
    obtain ⟨rfl, rfl⟩ := h
    rfl
theorem M.rT_no {l : M.By} (h : M.rB l = none) : M.rT l = none := by
  cases l with
  | nil => rfl
  | cons x t => simp [M.rB] at h

set_option maxHeartbeats 2000000 in
theorem pair_any (b : Nat) (l : M.By) (w : World) (h : RdAt w b l) :
    Calls Try.prog 59 #[.pointer (some ⟨b, 0, none⟩)] w fun e w' => Reads b w w' (M.r2 l) isInt e := by
  have K : Hid (Calls Try.prog 50 #[.pointer (some ⟨b, 0, none⟩)] w fun e w' => Reads b w w' (M.rB l) isInt e) := byte_any b l w h
  clear h
  go_enter Try.func59, Try.ntmps59
  go_wp2_with fail
  refine K.out.mono ?_
  rintro e w1 ⟨hb, ⟨k, t, v, h1, rfl, rfl, hr⟩ | ⟨h1, rfl⟩⟩
  · have K2 : Hid (Calls Try.prog 50 #[.pointer (some ⟨b, 0, none⟩)] w1 fun e w' => Reads b w1 w' (M.rB t) isInt e) := byte_any b t w1 hr
    have H1 : Hid (M.rB l = some (k, t)) := h1
    have hk := M.rB_range h1
    have hw : IntKind.i64.wrap (256 * k) = 256 * k := by rw [IntKind.wrap_i64]; omega
    clear h1 hr K
    go_wp2_with fail
    refine K2.out.mono ?_
    rintro e w2 ⟨hb2, ⟨j, u, v, h2, rfl, rfl, hr⟩ | ⟨h2, rfl⟩⟩
    · have H2 : Hid (M.rB t = some (j, u)) := h2
      have HR : Hid (RdAt w2 b u) := hr
      have hj := M.rB_range h2
      have hw2 : IntKind.i64.wrap (256 * k + j) = 256 * k + j := by rw [IntKind.wrap_i64]; omega
      clear h2 hr K2
      go_wp2
      go_ret
      exact ⟨hb.trans hb2, Or.inl ⟨_, u, _, M.r2_yes H1.out H2.out, rfl, rfl, HR.out⟩⟩
    · have H2 : Hid (M.rB t = none) := h2
      clear h2 K2
      unfold early
      go_wp2
      exact ⟨rfl, hb.trans hb2, Or.inr ⟨M.r2_no2 H1.out H2.out, rfl⟩⟩
  · have H1 : Hid (M.rB l = none) := h1
    clear h1 K
    unfold early
    go_wp2
    exact ⟨rfl, hb, Or.inr ⟨M.r2_no1 H1.out, rfl⟩⟩

set_option maxHeartbeats 2000000 in
theorem text_any (b : Nat) (l : M.By) (w : World) (h : RdAt w b l) :
    Calls Try.prog 55 #[.pointer (some ⟨b, 0, none⟩)] w fun e w' => Reads b w w' (M.rT l) isStr e := by
  have K : Hid (Calls Try.prog 50 #[.pointer (some ⟨b, 0, none⟩)] w fun e w' => Reads b w w' (M.rB l) isInt e) := byte_any b l w h
  clear h
  go_enter Try.func55, Try.ntmps55
  go_wp2_with fail
  refine K.out.mono ?_
  rintro e w1 ⟨hb, ⟨k, t, v, h1, rfl, rfl, hr⟩ | ⟨h1, rfl⟩⟩
  · have hk := M.rB_range h1
    obtain ⟨n, rfl⟩ : ∃ n : Nat, k = (n : Int) := ⟨k.toNat, by omega⟩
    have K2 : Hid (Calls Try.prog 58 #[.pointer (some ⟨b, 0, none⟩), .int .i64 (n : Int)] w1 fun e w' => But b w1 w' ∧ ((n ≤ t.length ∧ e = .returned (.string (M.str (t.take n))) ∧ RdAt w' b (t.drop n)) ∨ (t.length < n ∧ e = early))) := take_any b n t w1 hr
    have H1 : Hid (M.rT l = if n ≤ t.length then some (t.take n, t.drop n) else none) := M.rT_yes h1
    clear h1 hr K
    go_wp2_with fail
    refine K2.out.mono ?_
    rintro e w2 ⟨hb2, ⟨h2, rfl, hr⟩ | ⟨h2, rfl⟩⟩
    · have HR : Hid (RdAt w2 b (t.drop n)) := hr
      have H2 : Hid (n ≤ t.length) := h2
      clear h2 hr K2
      go_wp2
      go_ret
      exact ⟨hb.trans hb2, Or.inl ⟨_, _, _, by rw [H1.out, if_pos H2.out], rfl, rfl, HR.out⟩⟩
    · have H2 : Hid (t.length < n) := h2
      clear h2 K2
      unfold early
      go_wp2
      exact ⟨rfl, hb.trans hb2, Or.inr ⟨by rw [H1.out, if_neg (by have := H2.out; omega)], rfl⟩⟩
  · have H1 : Hid (M.rB l = none) := h1
    clear h1 K
    unfold early
    go_wp2
    exact ⟨rfl, hb, Or.inr ⟨M.rT_no H1.out, rfl⟩⟩
end Go.Proofs.Ytcgpgflnihjpiag
