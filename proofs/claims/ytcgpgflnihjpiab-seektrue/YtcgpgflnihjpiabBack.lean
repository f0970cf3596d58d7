/- slices.Backward over the levels of a tree. -/
import Derived.Test.YtcgpgflnihjpiabLeaves
namespace Go.Proofs.Ytcgpgflnihjpiab
open Go.RowKit Go.Shelf
attribute [local go_sem] Oper.semAt_some

/-- A level of a tree that lay in w. -/
def Lev (w : World) (T : List (List (List (Int × Int)))) : Type := { x : Nat × (Option Addr × Nat × Nat) // x.1 < T.length ∧ LvS w x.2.1 x.2.2.1 x.2.2.2 (T.getD x.1 []) }
def Lev.val {w : World} {T : List (List (List (Int × Int)))} (x : Lev w T) : Value := .slice x.1.2.1 x.1.2.2.1 x.1.2.2.2
def Lev.idx {w : World} {T : List (List (List (Int × Int)))} (x : Lev w T) : Nat := x.1.1
def KeepP (B p : Nat) (W W' : World) : Prop := Below B W W' ∧ W'.heap[p]? = W.heap[p]?
theorem KeepP.trans {B p : Nat} {A W C : World} (h : KeepP B p A W) (k : KeepP B p W C) : KeepP B p A C := ⟨h.1.trans k.1, k.2.trans h.2⟩
theorem KeepP.refl (B p : Nat) (W : World) : KeepP B p W W := ⟨Below.refl _ _, rfl⟩
theorem KeepP.cell {B p : Nat} {W W' : World} (h : KeepP B p W W') (o : Nat) : W'.cell? ⟨p, o, none⟩ = W.cell? ⟨p, o, none⟩ := World.cell?_of_block (w := W) h.2
def down (n : Nat) : List Nat := (List.range n).reverse
theorem down_take (n k : Nat) (h : k < n) : (down n).take (k + 1) = (down n).take k ++ [n - 1 - k] := by
  unfold down
  rw [List.take_succ_eq_append_getElem (by simpa using h)]
  simp

theorem back_any (a : Option Addr) (n cap : Nat) (w : World) :
    Calls Try.prog 39 #[.slice a n cap] w fun e w' => e = .returned (.func (.func 54) #[] #[.pointer (some ⟨w.heap.size, 0, none⟩)]) ∧ w' = w.alloc (.cells #[.slice a n cap] 23) := by
  go_enter Try.func39, Try.ntmps39
  go_wp2
  go_ret
  exact ⟨rfl, rfl⟩

set_option maxRecDepth 100000 in
set_option maxHeartbeats 4000000 in
theorem back1_in (n0 lp p n cap : Nat) (a : Option Addr) (T : List (List (List (Int × Int)))) (w : World) (hn : 1 ≤ n0) (hT : TvS w a n cap T) (hn2 : n ≤ 1000)
    (J Jx : List (Lev w T) → World → Prop) (W : World) (hW : Below w.heap.size w W)
    (hY : ∀ pre x W1, J pre W1 → pre.length < 1000 → YieldAt Fence.wide (n0 - 1) Try.prog lp #[.int .i64 (x.idx : Int), Lev.val x] W1 fun e W' =>
      (e = .returned (.bool true) ∧ J (pre ++ [x]) W' ∧ KeepP w.heap.size p W1 W') ∨ (e = .returned (.bool false) ∧ Jx (pre ++ [x]) W'))
    (hp : W.cell? ⟨p, 0, none⟩ = some (.slice a n cap)) (h0 : J [] W) :
    CallsIn Fence.wide n0 Try.prog 54 #[.func (.yield lp) #[] #[], .pointer (some ⟨p, 0, none⟩)] W fun e W' => (∃ v, e = .returned v) ∧
      ((∃ xs : List (Lev w T), xs.map Lev.idx = down n ∧ J xs W') ∨ (∃ pre : List (Lev w T), True ∧ Jx pre W')) := by
  refine callsIn_of_wp Try.func54 rfl trivial ?_ rfl
  simp only [Try.ntmps54, List.size_toArray, List.length_cons, List.length_nil, Nat.reduceAdd, Nat.reduceSub, Array.replicate_succ, Array.replicate_zero, List.push_toArray, List.append_toArray, List.nil_append, List.cons_append]
  have HY : Aside (∀ pre x W1, J pre W1 → pre.length < 1000 → YieldAt Fence.wide (n0 - 1) Try.prog lp #[.int .i64 (x.idx : Int), Lev.val x] W1 fun e W' =>
      (e = .returned (.bool true) ∧ J (pre ++ [x]) W' ∧ KeepP w.heap.size p W1 W') ∨ (e = .returned (.bool false) ∧ Jx (pre ++ [x]) W')) := hY
  have HJ0 : Aside (J [] W) := h0
  have HT : Aside (TvS w a n cap T) := hT
  clear hY h0 hT
  gi_wp2
  gi_loopw [3] (fun v wr => ∃ (k g : Nat) (pre : List (Lev w T)), v = .int .i64 ((g : Int) - 1) ∧ k + g = n ∧ Aside (pre.length = k) ∧ Aside (pre.map Lev.idx = (down n).take k) ∧ Aside (J pre wr) ∧ KeepP w.heap.size p W wr)
    (fun v _ => match v with | .int _ k => (k + 1).toNat | _ => 0)
  case atStart => exact ⟨0, n, [], by go_num, by omega, rfl, by simp [Aside], HJ0, KeepP.refl _ _ _⟩
  case round =>
    obtain ⟨k, g, pre, rfl, hk, HP, HE, HJ', hkp⟩ := hrel
    have hp' : wr.cell? ⟨p, 0, none⟩ = some (.slice a n cap) := (hkp.cell 0).trans hp
    have hbel : Below w.heap.size w wr := hW.trans hkp.1
    cases g with
    | zero =>
      obtain rfl : k = n := by omega
      gi_wp2
      go_end0
      exact ⟨⟨_, rfl⟩, .inl ⟨pre, by rw [HE.out, List.take_of_length_le (by simp [down])], HJ'.out⟩⟩
    | succ g =>
      rw [show (((g + 1 : Nat) : Int) - 1) = (g : Int) by omega]
      obtain ⟨tb, to, rfl, hB, hc⟩ := HT.out.1.at (by omega)
      obtain ⟨xa, xn, xc, q2, s2⟩ := hc g (by omega)
      obtain ⟨x, hx0, hx1⟩ : ∃ x : Lev w T, x.idx = g ∧ Lev.val x = .slice xa xn xc := ⟨⟨(g, (xa, xn, xc)), by show g < T.length; rw [HT.out.1.1]; omega, s2⟩, rfl, rfl⟩
      have qc : wr.cell? ⟨tb, to + g, none⟩ = some (.slice xa xn xc) := (hbel.cell (p := ⟨tb, to + g, none⟩) hB).trans q2
      have hgi : (g : Int) < (n : Int) := by omega
      have hg0 : decide ((0 : Int) ≤ (g : Int)) = true := by simp
      have E : Aside ((pre ++ [x]).map Lev.idx = (down n).take (k + 1)) := by
        unfold Aside
        rw [List.map_append, HE.out, List.map_singleton, hx0, down_take n k (by omega), show n - 1 - k = g by omega]
      obtain ⟨fn, tmps, assign, body, hy, hRd⟩ := HY.out pre x wr HJ'.out (by rw [HP.out]; omega)
      rw [hx1, hx0] at hy
      have HRd : Aside (RoundIn Fence.wide (n0 - 1) Try.prog lp fn tmps assign body wr fun e W' => (e = .returned (.bool true) ∧ J (pre ++ [x]) W' ∧ KeepP w.heap.size p wr W') ∨ (e = .returned (.bool false) ∧ Jx (pre ++ [x]) W')) := hRd
      have HX : Aside ((pre ++ [x]).length = k + 1) := by unfold Aside; rw [List.length_append, HP.out]; rfl
      clear hRd hx1 hx0 hc q2 s2
      gi_wp2_with fail
      refine HRd.out.mono ?_
      rintro e W3 (⟨rfl, hJ3, hk3⟩ | ⟨rfl, hJx3⟩)
      · have HJ3 : Aside (J (pre ++ [x]) W3) := hJ3
        have hb3 := hkp.trans hk3
        clear hJ3 hk3 hy
        gi_wp2
        all_goals go_roundw
        all_goals first
          | exact ⟨k + 1, g, pre ++ [x], by go_num, by omega, HX, E, HJ3, hb3⟩
          | (simp; done)
          | (simp; omega)
      · gi_wp2
        refine bodyPost_ret (results_none rfl _ _ _) rfl ?_
        exact ⟨⟨_, rfl⟩, .inr ⟨pre ++ [x], trivial, hJx3⟩⟩

theorem back_stops (n0 p n cap : Nat) (a : Option Addr) (T : List (List (List (Int × Int)))) (w w0 : World) (hn : 1 ≤ n0) (hT : TvS w a n cap T) (hn2 : n ≤ 1000) (hw0 : Below w.heap.size w w0)
    (hp : w0.cell? ⟨p, 0, none⟩ = some (.slice a n cap)) (hpm : p < w0.heap.size) :
    SeqStopsK Fence.wide n0 Try.prog 54 #[.pointer (some ⟨p, 0, none⟩)] (fun x : Lev w T => #[.int .i64 (x.idx : Int), Lev.val x]) (KeepP w.heap.size p) (fun xs => xs.map Lev.idx = down n) (fun _ => True) 1000 w0 := fun lp J Jx W hW _ _ hY h0 =>
  back1_in n0 lp p n cap a T w hn hT hn2 J Jx W (hw0.trans (hW.mono hw0.size)) hY ((hW.cell (p := ⟨p, 0, none⟩) (by show p < _; omega)).trans hp) h0

end Go.Proofs.Ytcgpgflnihjpiab
