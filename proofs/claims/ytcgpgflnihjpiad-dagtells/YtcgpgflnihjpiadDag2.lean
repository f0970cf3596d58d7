/- Marks in memory; dag.mark, dag.aboveOne. -/
import Derived.Test.YtcgpgflnihjpiadDag1
import Derived.Laws.Tables
import Derived.Laws.CopyOwn
namespace Go.Proofs.Ytcgpgflnihjpiad
open Go.RowKit

/-- All is as it was, but what lies in block g. -/
structure Poked (g : Nat) (w w' : World) : Prop where
  os : w'.os = w.os
  tape : w'.tape = w.tape
  output : w'.output = w.output
  size : w'.heap.size = w.heap.size
  block : ∀ k, k ≠ g → w'.heap[k]? = w.heap[k]?
theorem Poked.refl (g : Nat) (w : World) : Poked g w w := ⟨rfl, rfl, rfl, rfl, fun _ _ => rfl⟩
theorem Poked.set {g : Nat} {w w' : World} (h : Poked g w w') (i : Nat) (v : Value) : Poked g w (w'.setCell ⟨g, i, none⟩ v) :=
  ⟨h.os, h.tape, h.output, by simp [World.setCell, h.size], fun k hk => (heap_setCell_other w' ⟨g, i, none⟩ k v hk).trans (h.block k hk)⟩
theorem Poked.below {g B : Nat} {w w' : World} (h : Poked g w w') (hB : B ≤ g) : Below B w w' :=
  ⟨h.os, h.tape, h.output, by rw [h.size]; omega, fun k hk => h.block k (by omega)⟩
theorem Poked.cell {g : Nat} {w w' : World} (h : Poked g w w') {p : Addr} (hp : p.block ≠ g) : w'.cell? p = w.cell? p := World.cell?_of_block (w := w) (h.block p.block hp)

/-- Block g holds the marks m. -/
def Bo (w : World) (g : Nat) (m : List Bool) : Prop := w.heap[g]? = some (.cells (m.map Value.bool).toArray 4 (0, 0))
theorem Bo.cell {w : World} {g : Nat} {m : List Bool} (h : Bo w g m) {i : Nat} (hi : i < m.length) : w.cell? ⟨g, i, none⟩ = some (.bool (m.getD i false)) := by
  rw [cell_of_row w g i _ _ _ h]
  simp [List.getD, hi]
theorem Bo.frozen {w : World} {g : Nat} {m : List Bool} (h : Bo w g m) (i : Nat) : w.frozen? ⟨g, i, none⟩ = false := frozen_of_row w g i _ _ h
theorem Bo.lt {w : World} {g : Nat} {m : List Bool} (h : Bo w g m) : g < w.heap.size := (Array.getElem?_eq_some_iff.1 h).1
theorem Bo.set {w : World} {g : Nat} {m : List Bool} (h : Bo w g m) (i : Nat) (t : Bool) : Bo (w.setCell ⟨g, i, none⟩ (.bool t)) g (m.set i t) := by
  unfold Bo
  rw [heap_setCell_same w g i _ _ _ h]
  simp [List.map_set]
theorem Bo.below {w w' : World} {g B : Nat} {m : List Bool} (h : Bo w g m) (hb : Below B w w') (hg : g < B) : Bo w' g m := (hb.block g hg).trans h
theorem Bo.keep {w w' : World} {g k : Nat} {m : List Bool} (h : Bo w g m) (hb : Poked k w w') (hg : g ≠ k) : Bo w' g m := (hb.block g hg).trans h

theorem infoBool : (Try.prog.info? 4).map (fun i => (i.zero, i.size, i.bytes)) = some (some (.bool false), 1, 1) := by kernel_rfl

theorem make_bool (n : Nat) (hn : n ≤ 1000) (W : World) : (Instr.makeSlice 50 (.int .i64 n) (.int .i64 n)).run Try.prog W = .ok (.slice (some ⟨W.heap.size, 0, none⟩) n n) (W.alloc (.cells ((List.replicate n false).map Value.bool).toArray 4)) := by
  obtain ⟨i0, hi, hz0, hz1, hz2⟩ := info_parts infoBool
  have h := run_make (P := Try.prog) W 50 4 i0 _ Try.underlying50 hi hz0 .i64 .i64 n n (by omega) (by omega) (by rw [hz2]; omega) (by omega)
  rw [hz1] at h
  rw [h]
  have e : madeCells (Value.bool false).cells ((n : Int).toNat * 1) = ((List.replicate n false).map Value.bool).toArray := by
    apply Array.ext
    · simp [madeCells]
    · intro i h1 h2
      simp [madeCells, Value.cells, Nat.mod_one]
  rw [e]
  simp

/-! ### mark -/
theorem dmark_none (g N Cp : Nat) (a : Option Addr) (cap : Nat) (w : World) :
    Calls Try.prog 73 #[.slice (some ⟨g, 0, none⟩) N Cp, .slice a 0 cap] w fun e w' => (∃ v, e = .returned v) ∧ w' = w := by
  go_enter Try.func73, Try.ntmps73
  go_wp2
  refine wp_loop_rounds 1 ?_
  rw [rounds_succ]
  go_wp2
  go_end0
  exact ⟨⟨_, rfl⟩, rfl⟩

set_option maxHeartbeats 2000000 in
theorem dmark_some (b off n cap g N Cp : Nat) (ps : List Int) (m : List Bool) (w : World) (hn : n ≤ 2) (hl : ps.length = n) (hm : m.length = N) (hbg : b ≠ g)
    (hps : ∀ p ∈ ps, 0 ≤ p ∧ p < (N : Int)) (hg : Bo w g m) (hc : ∀ i, i < n → w.cell? ⟨b, off + i, none⟩ = some (.int .i64 (ps.getD i 0))) :
    Calls Try.prog 73 #[.slice (some ⟨g, 0, none⟩) N Cp, .slice (some ⟨b, off, none⟩) n cap] w fun e w' => (∃ v, e = .returned v) ∧ Bo w' g (M.mark m ps) ∧ Poked g w w' := by
  have HC : Aside (∀ i, i < n → w.cell? ⟨b, off + i, none⟩ = some (.int .i64 (ps.getD i 0))) := hc
  have HL : Aside (ps.length = n) := hl
  have HM : Aside (m.length = N) := hm
  have HP : Aside (∀ p ∈ ps, 0 ≤ p ∧ p < (N : Int)) := hps
  have HG : Aside (Bo w g m) := hg
  clear hc hl hm hps hg
  go_enter Try.func73, Try.ntmps73
  go_wp2
  go_loopg [8] n (fun gg i wr => ∃ (k : Nat), k + gg = n ∧ i = .int .i64 k ∧ Aside (Bo wr g (M.mark m (ps.take k))) ∧ Aside (Poked g w wr))
  case atStart => exact ⟨0, by omega, rfl, HG, Poked.refl _ _⟩
  case round =>
    obtain ⟨k, hk, rfl, HB, HK⟩ := hrel
    by_cases hlt : k < n
    · have hmem : ps.getD k 0 ∈ ps := by have h2 := HL.out; simp [List.getD, h2, hlt]
      have hr := HP.out _ hmem
      obtain ⟨x, hx⟩ : ∃ x : Nat, ps.getD k 0 = (x : Int) := ⟨(ps.getD k 0).toNat, by omega⟩
      have c0 : wr.cell? ⟨b, off + k, none⟩ = some (.int .i64 x) := by rw [HK.out.cell (p := ⟨b, off + k, none⟩) hbg, HC.out k hlt, hx]
      rw [hx] at hr
      have hxN : x < N := by omega
      have ml : (M.mark m (ps.take k)).length = N := by rw [M.mark_len]; exact HM.out
      have c1 := HB.out.cell (i := x) (by rw [ml]; exact hxN)
      obtain ⟨tt, htt⟩ : ∃ tt, (M.mark m (ps.take k)).getD x false = tt := ⟨_, rfl⟩
      rw [htt] at c1
      have f1 := HB.out.frozen x
      have HB' : Aside (Bo (wr.setCell ⟨g, x, none⟩ (.bool true)) g (M.mark m (ps.take (k + 1)))) := by
        unfold Aside
        rw [M.mark_take m ps k (by rw [HL.out]; exact hlt), hx]
        exact HB.out.set x true
      have HK' : Aside (Poked g w (wr.setCell ⟨g, x, none⟩ (.bool true))) := HK.out.set x _
      clear hx htt ml hmem hr
      go_wp2
      go_roundg (gk - 1)
      case measure => omega
      case rel => exact ⟨k + 1, by omega, by go_num, HB', HK'⟩
    · have e : ps.take k = ps := List.take_of_length_le (by rw [HL.out]; omega)
      have HB' : Aside (Bo wr g (M.mark m ps)) := by have := HB.out; rw [e] at this; exact this
      clear e
      go_wp2
      go_end0
      exact ⟨⟨_, rfl⟩, HB'.out, HK.out⟩

theorem dmark_any (a : Option Addr) (n cap g N Cp : Nat) (ps : List Int) (m : List Bool) (w : World) (h : Ri w a n ps) (hn : n ≤ 2) (hm : m.length = N) (hbg : ∀ b off, a = some ⟨b, off, none⟩ → b ≠ g)
    (hps : ∀ p ∈ ps, 0 ≤ p ∧ p < (N : Int)) (hg : Bo w g m) :
    Calls Try.prog 73 #[.slice (some ⟨g, 0, none⟩) N Cp, .slice a n cap] w fun e w' => (∃ v, e = .returned v) ∧ Bo w' g (M.mark m ps) ∧ Poked g w w' := by
  rcases h.cases with ⟨rfl, rfl⟩ | ⟨b, off, rfl, hn0, hl, hB, hc⟩
  · refine (dmark_none g N Cp a cap w).mono ?_
    rintro e w' ⟨hv, hw⟩
    subst hw
    exact ⟨hv, hg, Poked.refl _ _⟩
  · exact dmark_some b off n cap g N Cp ps m w hn hl hm (hbg b off rfl) hps hg hc

/-! ### aboveOne -/
set_option maxHeartbeats 4000000 in
theorem aboveOne_some (b off n cap : Nat) (L : List M.Com) (c : Nat) (w : World) (hn : n ≤ 14) (hcn : c < n) (hl : L.length = n) (hR : M.Right L) (hB : b < w.heap.size)
    (hc : ∀ i, i < n → ∃ a1 n1 c1 a2 n2 c2, w.cell? ⟨b, off + i * 2, none⟩ = some (.slice a1 n1 c1) ∧ w.cell? ⟨b, off + i * 2 + 1, none⟩ = some (.slice a2 n2 c2) ∧ Rd w a1 n1 (L.getD i ([], [])).1 ∧ Ri w a2 n2 (L.getD i ([], [])).2 ∧ n1 ≤ 9223372036854775807 ∧ n2 ≤ 9223372036854775807) :
    Calls Try.prog 72 #[.slice (some ⟨b, off, none⟩) n cap, .int .i64 c] w fun e w' => e = .returned (.slice (some ⟨w.heap.size, 0, none⟩) n n) ∧ Bo w' w.heap.size (M.above L c) ∧ Below w.heap.size w w' := by
  have HC : Aside (∀ i, i < n → ∃ a1 n1 c1 a2 n2 c2, w.cell? ⟨b, off + i * 2, none⟩ = some (.slice a1 n1 c1) ∧ w.cell? ⟨b, off + i * 2 + 1, none⟩ = some (.slice a2 n2 c2) ∧ Rd w a1 n1 (L.getD i ([], [])).1 ∧ Ri w a2 n2 (L.getD i ([], [])).2 ∧ n1 ≤ 9223372036854775807 ∧ n2 ≤ 9223372036854775807) := hc
  have HL : Aside (L.length = n) := hl
  have HRt : Aside (M.Right L) := hR
  have hmk := make_bool n (by omega)
  obtain ⟨Z, hZ⟩ : ∃ Z, Z = ((List.replicate n false).map Value.bool).toArray := ⟨_, rfl⟩
  have hZc : Z[c]? = some (.bool false) := by rw [hZ]; simp [hcn]
  rw [← hZ] at hmk
  have B0 : Bo (w.alloc (.cells Z 4)) w.heap.size (List.replicate n false) := by unfold Bo; rw [heap_alloc_new, hZ]
  have B1 : Aside (Bo (w.alloc (.cells (Z.setIfInBounds c (.bool true)) 4)) w.heap.size ((List.replicate n false).set c true)) := by unfold Aside Bo; rw [heap_alloc_new, hZ, List.setIfInBounds_toArray, List.map_set]
  have c1 : (w.alloc (.cells Z 4)).cell? ⟨w.heap.size, c, none⟩ = some (.bool false) := by rw [cell_of_row _ _ _ _ _ _ B0]; rw [← hZ]; exact hZc
  have f1 := B0.frozen c
  clear hc hl hR hZ B0
  go_enter Try.func72, Try.ntmps72
  go_wp2
  go_loopg [6] (c + 1) (fun gg i wr => ∃ (m : List Bool), ((gg = 0 ∧ i = .int .i64 (-1)) ∨ (∃ j : Nat, j + 1 = gg ∧ i = .int .i64 j)) ∧ gg ≤ c + 1 ∧ Aside (m.length = n) ∧ Aside (Bo wr w.heap.size m) ∧ Aside (M.aboveF L gg m = M.above L c) ∧ Below w.heap.size w wr)
  case atStart => exact ⟨(List.replicate n false).set c true, Or.inr ⟨c, rfl, rfl⟩, Nat.le_refl _, by simp [Aside], B1, by unfold Aside M.above; rw [HL.out], (Below.refl _ _).alloc (Nat.le_refl _) _⟩
  case round =>
    obtain ⟨m, hi, hle, HML, HB, HA, hbel⟩ := hrel
    rcases hi with ⟨rfl, rfl⟩ | ⟨j, rfl, rfl⟩
    · have HB' : Aside (Bo wr w.heap.size (M.above L c)) := by have h := HA.out; rw [M.aboveF] at h; rw [← h]; exact HB
      go_wp2
      go_ret
      exact ⟨rfl, HB'.out, hbel⟩
    · obtain ⟨a1, n1, k1, a2, n2, k2, q1, q2, r1, r2, m1, m2⟩ := HC.out j (by omega)
      have c0 : wr.cell? ⟨b, off + j * 2 + 1, none⟩ = some (.slice a2 n2 k2) := (hbel.cell (p := ⟨b, off + j * 2 + 1, none⟩) hB).trans q2
      have hjn : j < n := by omega
      have c1 := HB.out.cell (i := j) (by rw [HML.out]; exact hjn)
      have hRj := HRt.out j (by rw [HL.out]; exact hjn)
      have hr2 := r2.below hbel (Nat.le_refl _)
      have hab : ∀ b' off', a2 = some ⟨b', off', none⟩ → b' ≠ w.heap.size ∨ n2 = 0 := fun b' off' e => by
        rcases r2.2 with h0 | ⟨b2, off2, e2, hlt2, _⟩
        · exact Or.inr h0
        · left
          rw [e] at e2
          cases e2
          omega
      have HM : Aside (∀ Wx, Wx = wr → Calls Try.prog 73 #[.slice (some ⟨w.heap.size, 0, none⟩) n n, .slice a2 n2 k2] Wx fun e w' => (∃ v, e = .returned v) ∧ Bo w' w.heap.size (M.mark m (L.getD j ([], [])).2) ∧ Poked w.heap.size wr w') := fun Wx hx => by
        subst hx
        by_cases h0 : n2 = 0
        · subst h0
          have e : (L.getD j ([], [])).2 = [] := List.eq_nil_of_length_eq_zero r2.1
          rw [e]
          refine (dmark_none _ n n a2 k2 _).mono ?_
          rintro e w' ⟨h, rfl⟩
          exact ⟨h, HB.out, Poked.refl _ _⟩
        · exact dmark_any a2 n2 k2 w.heap.size n n _ m _ hr2 (by rw [← r2.1]; exact hRj.2.1) HML.out (fun b' off' e => (hab b' off' e).resolve_right h0) (fun p hp => by have := hRj.2.2 p hp; omega) HB.out
      have hA := HA.out
      rw [M.aboveF] at hA
      have HA2 : Aside (M.aboveF L j (if m.getD j false = true then M.mark m (L.getD j ([], [])).2 else m) = M.above L c) := hA
      obtain ⟨t, ht⟩ : ∃ t, m.getD j false = t := ⟨_, rfl⟩
      rw [ht] at c1
      have HT : Aside (m.getD j false = t) := ht
      clear ht hA q1 q2 r1 r2 hr2 hab hRj HA
      have HJ : Aside (∀ gg : Nat, gg = j → (gg = 0 ∧ Value.int .i64 ((j : Int) - 1) = .int .i64 (-1)) ∨ (∃ j' : Nat, j' + 1 = gg ∧ Value.int .i64 ((j : Int) - 1) = .int .i64 j')) := fun gg e => by
        subst e
        cases gg with
        | zero => exact Or.inl ⟨rfl, rfl⟩
        | succ j' => exact Or.inr ⟨j', rfl, by congr 1; omega⟩
      cases t with
      | true =>
        go_wp2_with fail
        refine (HM.out _ rfl).mono ?_
        rintro e w1 ⟨⟨v, rfl⟩, hb1, hp1⟩
        have HB1 : Aside (Bo w1 w.heap.size (M.mark m (L.getD j ([], [])).2)) := hb1
        have hbel1 := hbel.trans (hp1.below (Nat.le_refl _))
        clear hb1 hp1
        go_wp2
        go_roundg j
        case measure => omega
        case rel => exact ⟨M.mark m (L.getD j ([], [])).2, HJ.out _ rfl, by omega, by unfold Aside; rw [M.mark_len]; exact HML.out, HB1, by have h := HA2.out; rw [HT.out, if_pos rfl] at h; exact h, hbel1⟩
      | false =>
        go_wp2
        go_roundg j
        case measure => omega
        case rel => exact ⟨m, HJ.out _ rfl, by omega, HML, HB, by have h := HA2.out; rw [HT.out, if_neg (by simp)] at h; exact h, hbel⟩

theorem aboveOne_any (a : Option Addr) (n cap : Nat) (L : List M.Com) (c : Nat) (w : World) (h : Cm w a n L) (hz : M.dchk L = 0) (hcn : c < n) :
    Calls Try.prog 72 #[.slice a n cap, .int .i64 c] w fun e w' => e = .returned (.slice (some ⟨w.heap.size, 0, none⟩) n n) ∧ Bo w' w.heap.size (M.above L c) ∧ Below w.heap.size w w' := by
  have hR := M.dchk_zero hz
  rcases h.cases with ⟨rfl, rfl⟩ | ⟨b, off, rfl, hn, hl, hB, hc⟩
  · omega
  · exact aboveOne_some b off n cap L c w (by rw [← hl]; exact hR.1) hcn hl hR.2 hB hc
end Go.Proofs.Ytcgpgflnihjpiad
