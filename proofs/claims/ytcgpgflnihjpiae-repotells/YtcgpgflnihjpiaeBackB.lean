/- slices.Backward over bools. -/
import Derived.Test.YtcgpgflnihjpiaeDag2
import Derived.Test.YtcgpgflnihjpiaeRepo0
import Derived.RangeFuncNested
import Derived.RangeFuncBound
import Derived.RangeFuncCalls
import Derived.RangeFuncLeaves
import Derived.RangeFuncBox
import Derived.Shelf.Abstract
import Derived.Shelf.RegionOpen
import Derived.OwnWalkIn
import Derived.TacticsInMore
import Derived.LoopNIn
import Derived.LoopIn
import Derived.Maps.AppendAt
namespace Go.Proofs.Ytcgpgflnihjpiae
open Go.RowKit Go.Shelf
attribute [local go_sem] Oper.semAt_some

def KeepQ (B p : Nat) (W W' : World) : Prop := Below B W W' ∧ W'.heap[p]? = W.heap[p]?
theorem KeepQ.trans {B p : Nat} {A W C : World} (h : KeepQ B p A W) (k : KeepQ B p W C) : KeepQ B p A C := ⟨h.1.trans k.1, k.2.trans h.2⟩
theorem KeepQ.refl (B p : Nat) (W : World) : KeepQ B p W W := ⟨Below.refl _ _, rfl⟩
theorem KeepQ.cell {B p : Nat} {W W' : World} (h : KeepQ B p W W') (o : Nat) : W'.cell? ⟨p, o, none⟩ = W.cell? ⟨p, o, none⟩ := World.cell?_of_block (w := W) h.2
/-- n - 1 .. 0. -/
def fall (n : Nat) : List Nat := (List.range n).reverse
theorem fall_take (n k : Nat) (h : k < n) : (fall n).take (k + 1) = (fall n).take k ++ [n - 1 - k] := by
  unfold fall
  rw [List.take_succ_eq_append_getElem (by simpa using h)]
  simp
theorem fall_succ (n : Nat) : fall (n + 1) = n :: fall n := by unfold fall; rw [List.range_succ]; simp
def picked (b : List Bool) (l : List Nat) : List Int := (l.filter fun k => b.getD k false).map fun k : Nat => (k : Int)
theorem picked_fall (b : List Bool) (n : Nat) : picked b (fall n) = M.fallF b n := by
  induction n with
  | zero => rfl
  | succ n ih =>
    rw [fall_succ]
    unfold picked at ih ⊢
    rw [List.filter_cons, M.fallF]
    by_cases h : b.getD n false = true
    · rw [if_pos h, if_pos h, List.map_cons, ih]
    · rw [if_neg h, if_neg h, ih]
theorem picked_more (b : List Bool) (l : List Nat) (x : Nat) : picked b (l ++ [x]) = picked b l ++ (if b.getD x false = true then [(x : Int)] else []) := by
  unfold picked
  rw [List.filter_append, List.map_append]
  congr 1
  by_cases h : b.getD x false = true
  · rw [if_pos h, List.filter_cons, if_pos h]; rfl
  · rw [if_neg h, List.filter_cons, if_neg h]; rfl
theorem picked_len (b : List Bool) (l : List Nat) : (picked b l).length ≤ l.length := by
  unfold picked; rw [List.length_map]; exact List.length_filter_le _ _

theorem bback_any (v : Value) (hv : v.oneCell' = true) (w : World) :
    Calls Try.prog 32 #[v] w fun e w' => e = .returned (.func (.func 47) #[] #[.pointer (some ⟨w.heap.size, 0, none⟩)]) ∧ w' = w.alloc (.cells #[v] 34) := by
  cases v <;> first | (simp [Value.oneCell'] at hv; done) | skip
  all_goals
    go_enter Try.func32, Try.ntmps32
    go_wp2
    go_ret
    exact ⟨rfl, rfl⟩

set_option maxRecDepth 100000 in
set_option maxHeartbeats 4000000 in
theorem bback1_in (n0 lp p g0 n cap : Nat) (B : List Bool) (w : World) (hn : 1 ≤ n0) (hB : Bo w g0 B) (hBl : B.length = n) (hn2 : n ≤ 1000)
    (J Jx : List Nat → World → Prop) (W : World) (hW : Below w.heap.size w W)
    (hY : ∀ (pre : List Nat) (x : Nat) (W1 : World), J pre W1 → pre.length < 1000 → YieldAt Fence.wide (n0 - 1) Try.prog lp #[.int .i64 (x : Int), .bool (B.getD x false)] W1 fun e W' =>
      (e = .returned (.bool true) ∧ J (pre ++ [x]) W' ∧ KeepQ w.heap.size p W1 W') ∨ (e = .returned (.bool false) ∧ Jx (pre ++ [x]) W'))
    (hp : W.cell? ⟨p, 0, none⟩ = some (.slice (some ⟨g0, 0, none⟩) n cap)) (h0 : J [] W) :
    CallsIn Fence.wide n0 Try.prog 47 #[.func (.yield lp) #[] #[], .pointer (some ⟨p, 0, none⟩)] W fun e W' => (∃ v, e = .returned v) ∧
      ((∃ xs : List Nat, xs = fall n ∧ J xs W') ∨ (∃ pre : List Nat, True ∧ Jx pre W')) := by
  refine callsIn_of_wp Try.func47 rfl trivial ?_ rfl
  simp only [Try.ntmps47, List.size_toArray, List.length_cons, List.length_nil, Nat.reduceAdd, Nat.reduceSub, Array.replicate_succ, Array.replicate_zero, List.push_toArray, List.append_toArray, List.nil_append, List.cons_append]
  have HY : Aside (∀ (pre : List Nat) (x : Nat) (W1 : World), J pre W1 → pre.length < 1000 → YieldAt Fence.wide (n0 - 1) Try.prog lp #[.int .i64 (x : Int), .bool (B.getD x false)] W1 fun e W' =>
      (e = .returned (.bool true) ∧ J (pre ++ [x]) W' ∧ KeepQ w.heap.size p W1 W') ∨ (e = .returned (.bool false) ∧ Jx (pre ++ [x]) W')) := hY
  have HJ0 : Aside (J [] W) := h0
  have HB : Aside (Bo w g0 B) := hB
  have HBl : Aside (B.length = n) := hBl
  have hg0 := hB.lt
  clear hY h0 hB hBl
  gi_wp2
  gi_loopw [3] (fun v wr => ∃ (k g : Nat) (pre : List Nat), v = .int .i64 ((g : Int) - 1) ∧ k + g = n ∧ Aside (pre.length = k) ∧ Aside (pre = (fall n).take k) ∧ Aside (J pre wr) ∧ KeepQ w.heap.size p W wr)
    (fun v _ => match v with | .int _ k => (k + 1).toNat | _ => 0)
  case atStart => exact ⟨0, n, [], by go_num, by omega, rfl, by simp [Aside], HJ0, KeepQ.refl _ _ _⟩
  case round =>
    obtain ⟨k, g, pre, rfl, hk, HP, HE, HJ', hkp⟩ := hrel
    have hp' : wr.cell? ⟨p, 0, none⟩ = some (.slice (some ⟨g0, 0, none⟩) n cap) := (hkp.cell 0).trans hp
    have hbel : Below w.heap.size w wr := hW.trans hkp.1
    cases g with
    | zero =>
      obtain rfl : k = n := by omega
      gi_wp2
      go_end0
      exact ⟨⟨_, rfl⟩, .inl ⟨pre, by rw [HE.out, List.take_of_length_le (by simp [fall])], HJ'.out⟩⟩
    | succ g =>
      rw [show (((g + 1 : Nat) : Int) - 1) = (g : Int) by omega]
      have qc := (HB.out.below hbel hg0).cell (i := g) (by rw [HBl.out]; omega)
      obtain ⟨t, ht⟩ : ∃ t, B.getD g false = t := ⟨_, rfl⟩
      have hgi : (g : Int) < (n : Int) := by omega
      have hg0' : decide ((0 : Int) ≤ (g : Int)) = true := by simp
      have E : Aside (pre ++ [g] = (fall n).take (k + 1)) := by
        unfold Aside
        rw [HE.out, fall_take n k (by omega), show n - 1 - k = g by omega]
      obtain ⟨fn, tmps, assign, body, hy, hRd⟩ := HY.out pre g wr HJ'.out (by rw [HP.out]; omega)
      rw [ht] at hy qc
      have HRd : Aside (RoundIn Fence.wide (n0 - 1) Try.prog lp fn tmps assign body wr fun e W' => (e = .returned (.bool true) ∧ J (pre ++ [g]) W' ∧ KeepQ w.heap.size p wr W') ∨ (e = .returned (.bool false) ∧ Jx (pre ++ [g]) W')) := hRd
      have HX : Aside ((pre ++ [g]).length = k + 1) := by unfold Aside; rw [List.length_append, HP.out]; rfl
      clear hRd ht
      gi_wp2_with fail
      refine HRd.out.mono ?_
      rintro e W3 (⟨rfl, hJ3, hk3⟩ | ⟨rfl, hJx3⟩)
      · have HJ3 : Aside (J (pre ++ [g]) W3) := hJ3
        have hb3 := hkp.trans hk3
        clear hJ3 hk3 hy
        gi_wp2
        all_goals go_roundw
        all_goals first
          | exact ⟨k + 1, g, pre ++ [g], by go_num, by omega, HX, E, HJ3, hb3⟩
          | (simp; done)
          | (simp; omega)
      · gi_wp2
        refine bodyPost_ret (results_none rfl _ _ _) rfl ?_
        exact ⟨⟨_, rfl⟩, .inr ⟨pre ++ [g], trivial, hJx3⟩⟩

theorem bback_stops (n0 p g0 n cap : Nat) (B : List Bool) (w w0 : World) (hn : 1 ≤ n0) (hB : Bo w g0 B) (hBl : B.length = n) (hn2 : n ≤ 1000) (hw0 : Below w.heap.size w w0)
    (hp : w0.cell? ⟨p, 0, none⟩ = some (.slice (some ⟨g0, 0, none⟩) n cap)) (hpm : p < w0.heap.size) :
    SeqStopsK Fence.wide n0 Try.prog 47 #[.pointer (some ⟨p, 0, none⟩)] (fun x : Nat => #[.int .i64 (x : Int), .bool (B.getD x false)]) (KeepQ w.heap.size p) (fun xs => xs = fall n) (fun _ => True) 1000 w0 := fun lp J Jx W hW _ _ hY h0 =>
  bback1_in n0 lp p g0 n cap B w hn hB hBl hn2 J Jx W (hw0.trans (hW.mono hw0.size)) hY ((hW.cell (p := ⟨p, 0, none⟩) (by show p < _; omega)).trans hp) h0
end Go.Proofs.Ytcgpgflnihjpiae
