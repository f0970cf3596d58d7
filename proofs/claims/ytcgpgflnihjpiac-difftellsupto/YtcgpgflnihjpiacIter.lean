/- The iterator of chunks. -/
import Derived.Test.YtcgpgflnihjpiacFirst
import Derived.RangeFuncNested
import Derived.RangeFuncBound
import Derived.RangeFuncCalls
import Derived.RangeFuncLeaves
import Derived.RangeFuncBox
import Derived.Shelf.Abstract
import Derived.Shelf.RegionOpen
import Derived.OwnWalkIn
import Derived.TacticsInMore
import Derived.LoopNIn
import Derived.LoopIn
namespace Go.Proofs.Ytcgpgflnihjpiac
open Go.RowKit Go.Shelf
attribute [local go_sem] Oper.semAt_some

/-- A slice of rows, whole, and few of them. -/
def Sl (w : World) (a : Option Addr) (n cap : Nat) (l : List (Int × Int)) : Prop := Rd w a n l ∧ n ≤ cap ∧ cap ≤ maxLen ∧ (a = none → n = 0 ∧ cap = 0)

/-- All blocks below m but one are kept. -/
def KeepBut (B m : Nat) (W W' : World) : Prop := Below B W W' ∧ ∀ k, B < k → k < m → W'.heap[k]? = W.heap[k]?
theorem KeepBut.trans {B m : Nat} {A W C : World} (h : KeepBut B m A W) (k : KeepBut B m W C) : KeepBut B m A C :=
  ⟨h.1.trans k.1, fun i h1 h2 => (k.2 i h1 h2).trans (h.2 i h1 h2)⟩
theorem KeepBut.refl (B m : Nat) (W : World) : KeepBut B m W W := ⟨Below.refl _ _, fun _ _ _ => rfl⟩
theorem KeepBut.cell {B m : Nat} {W W' : World} (h : KeepBut B m W W') {p : Addr} (h1 : p.block ≠ B) (h2 : p.block < m) : W'.cell? p = W.cell? p := by
  by_cases hlt : p.block < B
  · exact h.1.cell hlt
  · exact World.cell?_of_block (w := W) (h.2 p.block (by omega) h2)

/-- A piece of rows that lies where it lay. -/
def Piece (w : World) (B : Nat) : Type := { x : (Option Addr × Nat × Nat) × List (Int × Int) // (∃ b off, x.1.1 = some ⟨b, off, none⟩ ∧ b < B) ∧ Sl w x.1.1 x.1.2.1 x.1.2.2 x.2 ∧ x.1.2.1 ≤ 40 }
def Piece.val {w : World} {B : Nat} (x : Piece w B) : Value := .slice x.1.1.1 x.1.1.2.1 x.1.1.2.2
def Piece.rows {w : World} {B : Nat} (x : Piece w B) : List (Int × Int) := x.1.2

theorem Rd.keep {w w' : World} {b off n B : Nat} {l : List (Int × Int)} (h : Rd w (some ⟨b, off, none⟩) n l) (hb : b < B) (hB : Below B w w') : Rd w' (some ⟨b, off, none⟩) n l := by
  obtain ⟨h1, h2⟩ := h
  refine ⟨h1, ?_⟩
  rcases h2 with h2 | ⟨b', off', ha, hlt, hc⟩
  · exact Or.inl h2
  · obtain ⟨rfl, rfl⟩ : b = b' ∧ off = off' := by simpa using ha
    refine Or.inr ⟨b, off, rfl, Nat.lt_of_lt_of_le hlt hB.size, fun i hi => ?_⟩
    rw [hB.cell (p := ⟨b, off + i * 2, none⟩) hb, hB.cell (p := ⟨b, off + i * 2 + 1, none⟩) hb]
    exact hc i hi

theorem grown_none {w w' : World} (h : Below w.heap.size w w') : w.grownBy w' none := ⟨h.os, h.tape, h.output, h.size, fun k hk _ => h.block k hk⟩
def lenV : Value → Nat | .slice _ n _ => n | _ => 0
theorem keep_below {B m : Nat} {W W' : World} (h : Below W.heap.size W W') (h1 : B ≤ W.heap.size) (h2 : m ≤ W.heap.size) : KeepBut B m W W' := ⟨h.mono h1, fun k _ hk => h.block k (by omega)⟩

set_option maxRecDepth 100000 in
set_option maxHeartbeats 4000000 in
/-- The function that goes through chunks, for every loop body that keeps all blocks below m but B. -/
theorem chunks1_in (n0 lp p q b off n cap B m : Nat) (l : List (Int × Int)) (level : Int) (w : World) (hn : 1 ≤ n0) (h40 : n ≤ 40) (hcap : n ≤ cap) (hcm : cap ≤ maxLen) (hbB : b < B)
    (J Jx : List (Piece w B) → World → Prop) (W : World) (hW : Below B w W)
    (hY : ∀ pre x W1, J pre W1 → pre.length < 40 → YieldAt Fence.wide (n0 - 1) Try.prog lp #[Piece.val x] W1 fun e W' =>
      (e = .returned (.bool true) ∧ J (pre ++ [x]) W' ∧ KeepBut B m W1 W') ∨ (e = .returned (.bool false) ∧ Jx (pre ++ [x]) W'))
    (hR : Rd w (some ⟨b, off, none⟩) n l) (hp : W.cell? ⟨p, 0, none⟩ = some (.slice (some ⟨b, off, none⟩) n cap)) (hq : W.cell? ⟨q, 0, none⟩ = some (.int .i64 level)) (hBm : B ≤ m) (hqB : q ≠ B) (hqm : q < m) (hmW : m ≤ W.heap.size) (h0 : J [] W) (hJ : AbidesFrom W.heap.size J) :
    CallsIn Fence.wide n0 Try.prog 86 #[.func (.yield lp) #[] #[], .pointer (some ⟨p, 0, none⟩), .pointer (some ⟨q, 0, none⟩)] W fun e W' => (∃ v, e = .returned v) ∧
      ((∃ xs : List (Piece w B), xs.map Piece.rows = M.cut level l ∧ J xs W') ∨ (∃ pre, True ∧ Jx pre W')) := by
  refine callsIn_of_wp Try.func86 rfl trivial ?_ rfl
  simp only [Try.ntmps86, List.size_toArray, List.length_cons, List.length_nil, Nat.reduceAdd, Nat.reduceSub, Array.replicate_succ, Array.replicate_zero, List.push_toArray, List.append_toArray, List.nil_append, List.cons_append]
  have HR : Aside (Rd w (some ⟨b, off, none⟩) n l) := hR
  have HY : Aside (∀ pre x W1, J pre W1 → pre.length < 40 → YieldAt Fence.wide (n0 - 1) Try.prog lp #[Piece.val x] W1 fun e W' =>
      (e = .returned (.bool true) ∧ J (pre ++ [x]) W' ∧ KeepBut B m W1 W') ∨ (e = .returned (.bool false) ∧ Jx (pre ++ [x]) W')) := hY
  have HJ : Aside (AbidesFrom W.heap.size J) := hJ
  have HJ0 : Aside (J [] W) := h0
  unfold maxLen at hcm
  clear hR hY hJ h0
  gi_wp2
  gi_loopw [4] (fun v wr => ∃ (pre : List (Piece w B)) (off' n' c' : Nat) (rest : List (Int × Int)), v = .slice (some ⟨b, off', none⟩) n' c' ∧ pre.length + n' ≤ 40 ∧ n' ≤ c' ∧ c' ≤ 9223372036854775807 ∧ Aside (Rd w (some ⟨b, off', none⟩) n' rest) ∧ Aside (pre.map Piece.rows ++ M.cut level rest = M.cut level l) ∧ Aside (J pre wr) ∧ KeepBut B m W wr)
    (fun v _ => lenV v)
  case atStart => exact ⟨[], off, n, cap, l, rfl, by simpa using h40, hcap, hcm, HR, by simp [Aside], HJ0, KeepBut.refl _ _ _⟩
  case round =>
    obtain ⟨pre, off', n', c', rest, rfl, hlen, hc1, hc2, HR', HE, HJ', hkb⟩ := hrel
    have hq' : wr.cell? ⟨q, 0, none⟩ = some (.int .i64 level) := (hkb.cell (p := ⟨q, 0, none⟩) hqB hqm).trans hq
    by_cases hn0 : n' = 0
    · subst hn0
      have hrest : rest = [] := List.eq_nil_of_length_eq_zero HR'.out.1
      subst hrest
      gi_wp2
      go_end0
      exact ⟨⟨_, rfl⟩, .inl ⟨pre, by have h := HE.out; rw [M.cut_nil, List.append_nil] at h; exact h, HJ'.out⟩⟩
    · have hbel : Below B w wr := hW.trans hkb.1
      have HRr : Aside (Rd wr (some ⟨b, off', none⟩) n' rest) := HR'.out.keep hbB hbel
      have hF := first_any (some ⟨b, off', none⟩) n' c' rest level wr HRr.out (by omega)
      have hne : rest ≠ [] := fun e => hn0 (by rw [← HR'.out.1, e]; rfl)
      obtain ⟨k, hk⟩ : ∃ k, k = M.len level rest := ⟨_, rfl⟩
      have hp := M.len_pos level rest hne
      rw [← hk, HR'.out.1] at hp
      obtain ⟨hk0, hk1⟩ := hp
      rw [← hk] at hF
      have HF : Aside (Calls Try.prog 87 #[.slice (some ⟨b, off', none⟩) n' c', .int .i64 level] wr fun e w' => e = .returned (.int .i64 k) ∧ Below wr.heap.size wr w') := hF
      have HK : Aside (k = M.len level rest) := hk
      clear hF hk
      gi_wp2_with (refine ⟨trivial, ?_⟩; gi_at_call 87; refine (callsIn_wide.2 HF.out).mono ?_; rintro e W1 ⟨rfl, hb1⟩)
      have hszr : W.heap.size ≤ wr.heap.size := hkb.1.size
      have hJ1 : J pre W1 := HJ.out pre wr W1 none HJ'.out (grown_none hb1) (fun r e => by cases e)
      have hkb1 : KeepBut B m W W1 := hkb.trans (keep_below hb1 (by omega) (by omega))
      obtain ⟨x, hx1, hx2⟩ : ∃ x : Piece w B, Piece.val x = .slice (some ⟨b, off', none⟩) k c' ∧ x.rows = rest.take k :=
        ⟨⟨((some ⟨b, off', none⟩, k, c'), rest.take k), ⟨b, off', rfl, hbB⟩, ⟨HR'.out.take k hk1, by show k ≤ c'; omega, by show c' ≤ maxLen; unfold maxLen; omega, fun h => by simp at h⟩, by show k ≤ 40; omega⟩, rfl, rfl⟩
      obtain ⟨fn, tmps, assign, body, hy, hRd⟩ := HY.out pre x W1 hJ1 (by omega)
      rw [hx1] at hy
      have HRd : Aside (RoundIn Fence.wide (n0 - 1) Try.prog lp fn tmps assign body W1 fun e W' => (e = .returned (.bool true) ∧ J (pre ++ [x]) W' ∧ KeepBut B m W1 W') ∨ (e = .returned (.bool false) ∧ Jx (pre ++ [x]) W')) := hRd
      have HX2 : Aside (x.rows = rest.take k) := hx2
      clear hRd hx1 hx2 hJ1 hb1 HF hq'
      rw [hy]
      gi_wp2
      refine HRd.out.mono ?_
      rintro e W3 (⟨rfl, hJ3, hk3⟩ | ⟨rfl, hJx3⟩)
      · have HJ3 : Aside (J (pre ++ [x]) W3) := hJ3
        have hkb3 := hkb1.trans hk3
        clear hJ3 hk3 hy
        have E : Aside ((pre ++ [x]).map Piece.rows ++ M.cut level (rest.drop k) = M.cut level l) := by
          unfold Aside
          rw [← HE.out, M.cut_step level rest hne, ← HK.out]
          simp [HX2.out]
        have hR4 : Aside (Rd w (some ⟨b, off' + k * 2, none⟩) (n' - k) (rest.drop k)) := HR'.out.drop k
        have hR5 : Aside (c' ≤ k → Rd w (some ⟨b, off', none⟩) (n' - k) (rest.drop k)) := fun h => Rd.zero (by omega) hR4.out.1
        gi_wp2
        all_goals go_roundw
        all_goals first
          | (show lenV _ < lenV _; simp [lenV]; omega)
          | (by_cases hck : c' = k
             · exact ⟨pre ++ [x], off', n' - k, c' - k, rest.drop k, by rw [if_pos hck], by simp; omega, by omega, by omega, hR5.out (by omega), E, HJ3, hkb3⟩
             · exact ⟨pre ++ [x], off' + k * 2, n' - k, c' - k, rest.drop k, by rw [if_neg hck], by simp; omega, by omega, by omega, hR4, E, HJ3, hkb3⟩)
      · gi_wp2
        refine bodyPost_ret (results_none rfl _ _ _) rfl ?_
        exact ⟨⟨_, rfl⟩, .inr ⟨pre ++ [x], trivial, hJx3⟩⟩

/-- chunks hands back the function, over two boxes. -/
theorem chunks_any (a : Option Addr) (n cap : Nat) (level : Int) (w : World) :
    Calls Try.prog 65 #[.slice a n cap, .int .i64 level] w fun e w' => e = .returned (.func (.func 86) #[] #[.pointer (some ⟨w.heap.size, 0, none⟩), .pointer (some ⟨w.heap.size + 1, 0, none⟩)]) ∧ w' = (w.alloc (.cells #[.slice a n cap] 32)).alloc (.cells #[.int .i64 level] 3) := by
  go_enter Try.func65, Try.ntmps65
  go_wp2
  go_ret
  exact ⟨rfl, rfl⟩

theorem chunks_stops (n0 p q b off n cap B m : Nat) (l : List (Int × Int)) (level : Int) (w w0 : World) (hn : 1 ≤ n0) (h40 : n ≤ 40) (hcap : n ≤ cap) (hcm : cap ≤ maxLen) (hbB : b < B) (hw0 : Below B w w0)
    (hR : Rd w (some ⟨b, off, none⟩) n l) (hp : w0.cell? ⟨p, 0, none⟩ = some (.slice (some ⟨b, off, none⟩) n cap)) (hq : w0.cell? ⟨q, 0, none⟩ = some (.int .i64 level)) (hpm : p < m) (hBm : B ≤ m) (hqB : q ≠ B) (hqm : q < m) (hmW : m ≤ w0.heap.size) :
    SeqStopsK Fence.wide n0 Try.prog 86 #[.pointer (some ⟨p, 0, none⟩), .pointer (some ⟨q, 0, none⟩)] (fun x : Piece w B => #[Piece.val x]) (KeepBut B m) (fun xs => xs.map Piece.rows = M.cut level l) (fun _ => True) 40 w0 := fun lp J Jx W hW hJ _ hY h0 =>
  chunks1_in n0 lp p q b off n cap B m l level w hn h40 hcap hcm hbB J Jx W (hw0.trans (hW.mono (by omega))) hY hR ((hW.cell (p := ⟨p, 0, none⟩) (by show p < _; omega)).trans hp) ((hW.cell (p := ⟨q, 0, none⟩) (by show q < _; omega)).trans hq) hBm hqB hqm (by have := hW.size; omega) h0 hJ
end Go.Proofs.Ytcgpgflnihjpiac
