/- Dag2. -/
import Derived.Test.YtcgpgflnihjpiagGreatBRestRepos01
import Derived.Laws.Tables
import Derived.Laws.CopyOwn
import Derived.Test.YtcgpgflnihjpiagGreatBRestRepos05
import Derived.Test.YtcgpgflnihjpiagGreatChecked
import Derived.Shelf.SlIterI.Nil
import Derived.Shelf.SortM.Plain
import Derived.Shelf.SortM.SortNone
import Derived.Test.YtcgpgflnihjpiagGreatBRestRepos03
import Derived.Test.YtcgpgflnihjpiagGreatBRestRepos04
import Derived.Test.YtcgpgflnihjpiagGreatBRestRepos06
namespace Go.Proofs.YtcgpgflnihjpiagGreat
open Go.RowKit
structure Poked (g : Nat) (w w' : World) : Prop where
  os : w'.os = w.os
  tape : w'.tape = w.tape
  output : w'.output = w.output
  size : w'.heap.size = w.heap.size
  block : ∀ k, k ≠ g → w'.heap[k]? = w.heap[k]?
theorem Poked.refl (g : Nat) (w : World) : Poked g w w := ⟨rfl, rfl, rfl, rfl, fun _ _ => rfl⟩
theorem Poked.set {g : Nat} {w w' : World} (h : Poked g w w') (i : Nat) (v : Value) : Poked g w (w'.setCell ⟨g, i, none⟩ v) :=
  ⟨h.os, h.tape, h.output, by simp [World.setCell, h.size], fun k hk => (heap_setCell_other w' ⟨g, i, none⟩ k v hk).trans (h.block k hk)⟩
theorem Poked.below {g B : Nat} {w w' : World} (h : Poked g w w') (hB : B ≤ g) : Below B w w' :=
  ⟨h.os, h.tape, h.output, by rw [h.size]; omega, fun k hk => h.block k (by omega)⟩
theorem Poked.cell {g : Nat} {w w' : World} (h : Poked g w w') {p : Addr} (hp : p.block ≠ g) : w'.cell? p = w.cell? p := World.cell?_of_block (w := w) (h.block p.block hp)
def Bo (w : World) (g : Nat) (m : List Bool) : Prop := w.heap[g]? = some (.cells (m.map Value.bool).toArray 4 (0, 0))
theorem Bo.cell {w : World} {g : Nat} {m : List Bool} (h : Bo w g m) {i : Nat} (hi : i < m.length) : w.cell? ⟨g, i, none⟩ = some (.bool (m.getD i false)) := by
  rw [cell_of_row w g i _ _ _ h]
  simp [List.getD, hi]
theorem Bo.frozen {w : World} {g : Nat} {m : List Bool} (h : Bo w g m) (i : Nat) : w.frozen? ⟨g, i, none⟩ = false := frozen_of_row w g i _ _ h
theorem Bo.lt {w : World} {g : Nat} {m : List Bool} (h : Bo w g m) : g < w.heap.size := (Array.getElem?_eq_some_iff.1 h).1
theorem Bo.set {w : World} {g : Nat} {m : List Bool} (h : Bo w g m) (i : Nat) (t : Bool) : Bo (w.setCell ⟨g, i, none⟩ (.bool t)) g (m.set i t) := by
  unfold Bo
  rw [heap_setCell_same w g i _ _ _ h]
  simp [List.map_set]
theorem Bo.below {w w' : World} {g B : Nat} {m : List Bool} (h : Bo w g m) (hb : Below B w w') (hg : g < B) : Bo w' g m := (hb.block g hg).trans h
theorem Bo.keep {w w' : World} {g k : Nat} {m : List Bool} (h : Bo w g m) (hb : Poked k w w') (hg : g ≠ k) : Bo w' g m := (hb.block g hg).trans h
theorem infoBool : (Tryz.prog.info? 4).map (fun i => (i.zero, i.size, i.bytes)) = some (some (.bool false), 1, 1) := by kernel_rfl
theorem make_bool (n : Nat) (hn : n ≤ 1000) (W : World) : (Instr.makeSlice 141 (.int .i64 n) (.int .i64 n)).run Tryz.prog W = .ok (.slice (some ⟨W.heap.size, 0, none⟩) n n) (W.alloc (.cells ((List.replicate n false).map Value.bool).toArray 4)) := by
  obtain ⟨i0, hi, hz0, hz1, hz2⟩ := info_parts infoBool
  have h := run_make (P := Tryz.prog) W 141 4 i0 _ Tryz.underlying141 hi hz0 .i64 .i64 n n (by omega) (by omega) (by rw [hz2]; omega) (by omega)
  rw [hz1] at h
  rw [h]
  have e : madeCells (Value.bool false).cells ((n : Int).toNat * 1) = ((List.replicate n false).map Value.bool).toArray := by
    apply Array.ext
    · simp [madeCells]
    · intro i h1 h2
      simp [madeCells, Value.cells, Nat.mod_one]
  rw [e]
  simp
theorem dmark_none (g N Cp : Nat) (a : Option Addr) (cap : Nat) (w : World) :
    Calls Tryz.prog 148 #[.slice (some ⟨g, 0, none⟩) N Cp, .slice a 0 cap] w fun e w' => (∃ v, e = .returned v) ∧ w' = w := by
  go_enter Tryz.func148, Tryz.ntmps148
  go_wp2
  refine wp_loop_rounds 1 ?_
  rw [rounds_succ]
  go_wp2
  go_end0
  exact ⟨⟨_, rfl⟩, rfl⟩
set_option maxHeartbeats 2000000 in
theorem dmark_some (b off n cap g N Cp : Nat) (ps : List Int) (m : List Bool) (w : World) (hn : n ≤ 2) (hl : ps.length = n) (hm : m.length = N) (hbg : b ≠ g)
    (hps : ∀ p ∈ ps, 0 ≤ p ∧ p < (N : Int)) (hg : Bo w g m) (hc : ∀ i, i < n → w.cell? ⟨b, off + i, none⟩ = some (.int .i64 (ps.getD i 0))) :
    Calls Tryz.prog 148 #[.slice (some ⟨g, 0, none⟩) N Cp, .slice (some ⟨b, off, none⟩) n cap] w fun e w' => (∃ v, e = .returned v) ∧ Bo w' g (M.mark m ps) ∧ Poked g w w' := by
  have HC : Aside (∀ i, i < n → w.cell? ⟨b, off + i, none⟩ = some (.int .i64 (ps.getD i 0))) := hc
  have HL : Aside (ps.length = n) := hl
  have HM : Aside (m.length = N) := hm
  have HP : Aside (∀ p ∈ ps, 0 ≤ p ∧ p < (N : Int)) := hps
  have HG : Aside (Bo w g m) := hg
  clear hc hl hm hps hg
  go_enter Tryz.func148, Tryz.ntmps148
  go_wp2
  go_loopg [8] n (fun gg i wr => ∃ (k : Nat), k + gg = n ∧ i = .int .i64 k ∧ Aside (Bo wr g (M.mark m (ps.take k))) ∧ Aside (Poked g w wr))
  case atStart => exact ⟨0, by omega, rfl, HG, Poked.refl _ _⟩
  case round =>
    obtain ⟨k, hk, rfl, HB, HK⟩ := hrel
    by_cases hlt : k < n
    · have hmem : ps.getD k 0 ∈ ps := by have h2 := HL.out; simp [List.getD, h2, hlt]
      have hr := HP.out _ hmem
      obtain ⟨x, hx⟩ : ∃ x : Nat, ps.getD k 0 = (x : Int) := ⟨(ps.getD k 0).toNat, by omega⟩
      have c0 : wr.cell? ⟨b, off + k, none⟩ = some (.int .i64 x) := by rw [HK.out.cell (p := ⟨b, off + k, none⟩) hbg, HC.out k hlt, hx]
      rw [hx] at hr
      have hxN : x < N := by omega
      have ml : (M.mark m (ps.take k)).length = N := by rw [M.mark_len]; exact HM.out
      have c1 := HB.out.cell (i := x) (by rw [ml]; exact hxN)
      obtain ⟨tt, htt⟩ : ∃ tt, (M.mark m (ps.take k)).getD x false = tt := ⟨_, rfl⟩
      rw [htt] at c1
      have f1 := HB.out.frozen x
      have HB' : Aside (Bo (wr.setCell ⟨g, x, none⟩ (.bool true)) g (M.mark m (ps.take (k + 1)))) := by
        unfold Aside
        rw [M.mark_take m ps k (by rw [HL.out]; exact hlt), hx]
        exact HB.out.set x true
      have HK' : Aside (Poked g w (wr.setCell ⟨g, x, none⟩ (.bool true))) := HK.out.set x _
      clear hx htt ml hmem hr
      go_wp2
      go_roundg (gk - 1)
      case measure => omega
      case rel => exact ⟨k + 1, by omega, by go_num, HB', HK'⟩
    · have e : ps.take k = ps := List.take_of_length_le (by rw [HL.out]; omega)
      have HB' : Aside (Bo wr g (M.mark m ps)) := by have := HB.out; rw [e] at this; exact this
      clear e
      go_wp2
      go_end0
      exact ⟨⟨_, rfl⟩, HB'.out, HK.out⟩
theorem dmark_any (a : Option Addr) (n cap g N Cp : Nat) (ps : List Int) (m : List Bool) (w : World) (h : Ri w a n ps) (hn : n ≤ 2) (hm : m.length = N) (hbg : ∀ b off, a = some ⟨b, off, none⟩ → b ≠ g)
    (hps : ∀ p ∈ ps, 0 ≤ p ∧ p < (N : Int)) (hg : Bo w g m) :
    Calls Tryz.prog 148 #[.slice (some ⟨g, 0, none⟩) N Cp, .slice a n cap] w fun e w' => (∃ v, e = .returned v) ∧ Bo w' g (M.mark m ps) ∧ Poked g w w' := by
  rcases h.cases with ⟨rfl, rfl⟩ | ⟨b, off, rfl, hn0, hl, hB, hc⟩
  · refine (dmark_none g N Cp a cap w).mono ?_
    rintro e w' ⟨hv, hw⟩
    subst hw
    exact ⟨hv, hg, Poked.refl _ _⟩
  · exact dmark_some b off n cap g N Cp ps m w hn hl hm (hbg b off rfl) hps hg hc
set_option maxHeartbeats 4000000 in
theorem aboveOne_some (b off n cap : Nat) (L : List M.Com) (c : Nat) (w : World) (hn : n ≤ 14) (hcn : c < n) (hl : L.length = n) (hR : M.Right L) (hB : b < w.heap.size)
    (hc : ∀ i, i < n → ∃ a1 n1 c1 a2 n2 c2, w.cell? ⟨b, off + i * 2, none⟩ = some (.slice a1 n1 c1) ∧ w.cell? ⟨b, off + i * 2 + 1, none⟩ = some (.slice a2 n2 c2) ∧ Rd w a1 n1 (L.getD i ([], [])).1 ∧ Ri w a2 n2 (L.getD i ([], [])).2 ∧ n1 ≤ 9223372036854775807 ∧ n2 ≤ 9223372036854775807) :
    Calls Tryz.prog 159 #[.slice (some ⟨b, off, none⟩) n cap, .int .i64 c] w fun e w' => e = .returned (.slice (some ⟨w.heap.size, 0, none⟩) n n) ∧ Bo w' w.heap.size (M.above L c) ∧ Below w.heap.size w w' := by
  have HC : Aside (∀ i, i < n → ∃ a1 n1 c1 a2 n2 c2, w.cell? ⟨b, off + i * 2, none⟩ = some (.slice a1 n1 c1) ∧ w.cell? ⟨b, off + i * 2 + 1, none⟩ = some (.slice a2 n2 c2) ∧ Rd w a1 n1 (L.getD i ([], [])).1 ∧ Ri w a2 n2 (L.getD i ([], [])).2 ∧ n1 ≤ 9223372036854775807 ∧ n2 ≤ 9223372036854775807) := hc
  have HL : Aside (L.length = n) := hl
  have HRt : Aside (M.Right L) := hR
  have hmk := make_bool n (by omega)
  obtain ⟨Z, hZ⟩ : ∃ Z, Z = ((List.replicate n false).map Value.bool).toArray := ⟨_, rfl⟩
  have hZc : Z[c]? = some (.bool false) := by rw [hZ]; simp [hcn]
  rw [← hZ] at hmk
  have B0 : Bo (w.alloc (.cells Z 4)) w.heap.size (List.replicate n false) := by unfold Bo; rw [heap_alloc_new, hZ]
  have B1 : Aside (Bo (w.alloc (.cells (Z.setIfInBounds c (.bool true)) 4)) w.heap.size ((List.replicate n false).set c true)) := by unfold Aside Bo; rw [heap_alloc_new, hZ, List.setIfInBounds_toArray, List.map_set]
  have c1 : (w.alloc (.cells Z 4)).cell? ⟨w.heap.size, c, none⟩ = some (.bool false) := by rw [cell_of_row _ _ _ _ _ _ B0]; rw [← hZ]; exact hZc
  have f1 := B0.frozen c
  clear hc hl hR hZ B0
  go_enter Tryz.func159, Tryz.ntmps159
  go_wp2
  go_loopg [6] (c + 1) (fun gg i wr => ∃ (m : List Bool), ((gg = 0 ∧ i = .int .i64 (-1)) ∨ (∃ j : Nat, j + 1 = gg ∧ i = .int .i64 j)) ∧ gg ≤ c + 1 ∧ Aside (m.length = n) ∧ Aside (Bo wr w.heap.size m) ∧ Aside (M.aboveF L gg m = M.above L c) ∧ Below w.heap.size w wr)
  case atStart => exact ⟨(List.replicate n false).set c true, Or.inr ⟨c, rfl, rfl⟩, Nat.le_refl _, by simp [Aside], B1, by unfold Aside M.above; rw [HL.out], (Below.refl _ _).alloc (Nat.le_refl _) _⟩
  case round =>
    obtain ⟨m, hi, hle, HML, HB, HA, hbel⟩ := hrel
    rcases hi with ⟨rfl, rfl⟩ | ⟨j, rfl, rfl⟩
    · have HB' : Aside (Bo wr w.heap.size (M.above L c)) := by have h := HA.out; rw [M.aboveF] at h; rw [← h]; exact HB
      go_wp2
      go_ret
      exact ⟨rfl, HB'.out, hbel⟩
    · obtain ⟨a1, n1, k1, a2, n2, k2, q1, q2, r1, r2, m1, m2⟩ := HC.out j (by omega)
      have c0 : wr.cell? ⟨b, off + j * 2 + 1, none⟩ = some (.slice a2 n2 k2) := (hbel.cell (p := ⟨b, off + j * 2 + 1, none⟩) hB).trans q2
      have hjn : j < n := by omega
      have c1 := HB.out.cell (i := j) (by rw [HML.out]; exact hjn)
      have hRj := HRt.out j (by rw [HL.out]; exact hjn)
      have hr2 := r2.below hbel (Nat.le_refl _)
      have hab : ∀ b' off', a2 = some ⟨b', off', none⟩ → b' ≠ w.heap.size ∨ n2 = 0 := fun b' off' e => by
        rcases r2.2 with h0 | ⟨b2, off2, e2, hlt2, _⟩
        · exact Or.inr h0
        · left
          rw [e] at e2
          cases e2
          omega
      have HM : Aside (∀ Wx, Wx = wr → Calls Tryz.prog 148 #[.slice (some ⟨w.heap.size, 0, none⟩) n n, .slice a2 n2 k2] Wx fun e w' => (∃ v, e = .returned v) ∧ Bo w' w.heap.size (M.mark m (L.getD j ([], [])).2) ∧ Poked w.heap.size wr w') := fun Wx hx => by
        subst hx
        by_cases h0 : n2 = 0
        · subst h0
          have e : (L.getD j ([], [])).2 = [] := List.eq_nil_of_length_eq_zero r2.1
          rw [e]
          refine (dmark_none _ n n a2 k2 _).mono ?_
          rintro e w' ⟨h, rfl⟩
          exact ⟨h, HB.out, Poked.refl _ _⟩
        · exact dmark_any a2 n2 k2 w.heap.size n n _ m _ hr2 (by rw [← r2.1]; exact hRj.2.1) HML.out (fun b' off' e => (hab b' off' e).resolve_right h0) (fun p hp => by have := hRj.2.2 p hp; omega) HB.out
      have hA := HA.out
      rw [M.aboveF] at hA
      have HA2 : Aside (M.aboveF L j (if m.getD j false = true then M.mark m (L.getD j ([], [])).2 else m) = M.above L c) := hA
      obtain ⟨t, ht⟩ : ∃ t, m.getD j false = t := ⟨_, rfl⟩
      rw [ht] at c1
      have HT : Aside (m.getD j false = t) := ht
      clear ht hA q1 q2 r1 r2 hr2 hab hRj HA
      have HJ : Aside (∀ gg : Nat, gg = j → (gg = 0 ∧ Value.int .i64 ((j : Int) - 1) = .int .i64 (-1)) ∨ (∃ j' : Nat, j' + 1 = gg ∧ Value.int .i64 ((j : Int) - 1) = .int .i64 j')) := fun gg e => by
        subst e
        cases gg with
        | zero => exact Or.inl ⟨rfl, rfl⟩
        | succ j' => exact Or.inr ⟨j', rfl, by congr 1; omega⟩
      cases t with
      | true =>
        go_wp2_with fail
        refine (HM.out _ rfl).mono ?_
        rintro e w1 ⟨⟨v, rfl⟩, hb1, hp1⟩
        have HB1 : Aside (Bo w1 w.heap.size (M.mark m (L.getD j ([], [])).2)) := hb1
        have hbel1 := hbel.trans (hp1.below (Nat.le_refl _))
        clear hb1 hp1
        go_wp2
        go_roundg j
        case measure => omega
        case rel => exact ⟨M.mark m (L.getD j ([], [])).2, HJ.out _ rfl, by omega, by unfold Aside; rw [M.mark_len]; exact HML.out, HB1, by have h := HA2.out; rw [HT.out, if_pos rfl] at h; exact h, hbel1⟩
      | false =>
        go_wp2
        go_roundg j
        case measure => omega
        case rel => exact ⟨m, HJ.out _ rfl, by omega, HML, HB, by have h := HA2.out; rw [HT.out, if_neg (by simp)] at h; exact h, hbel⟩
theorem aboveOne_any (a : Option Addr) (n cap : Nat) (L : List M.Com) (c : Nat) (w : World) (h : Cm w a n L) (hz : M.dchk L = 0) (hcn : c < n) :
    Calls Tryz.prog 159 #[.slice a n cap, .int .i64 c] w fun e w' => e = .returned (.slice (some ⟨w.heap.size, 0, none⟩) n n) ∧ Bo w' w.heap.size (M.above L c) ∧ Below w.heap.size w w' := by
  have hR := M.dchk_zero hz
  rcases h.cases with ⟨rfl, rfl⟩ | ⟨b, off, rfl, hn, hl, hB, hc⟩
  · omega
  · exact aboveOne_some b off n cap L c w (by rw [← hl]; exact hR.1) hcn hl hR.2 hB hc
end Go.Proofs.YtcgpgflnihjpiagGreat
namespace Go.Proofs.YtcgpgflnihjpiagGreat
namespace M
def cnt (L : List Com) (xs : List Int) (i : Nat) : Nat := xs.countP (fun a => (above L a.toNat).getD i false)
def all (L : List Com) (xs : List Int) (i : Nat) : Bool := decide (((cnt L xs i : Nat) : Int) = ((xs.length : Nat) : Int))
theorem cnt_take (L : List Com) (xs : List Int) (k : Nat) (h : k < xs.length) (i : Nat) : cnt L (xs.take (k + 1)) i = cnt L (xs.take k) i + if (above L (xs.getD k 0).toNat).getD i false = true then 1 else 0 := by
  unfold cnt
  rw [List.take_succ_eq_append_getElem h, List.countP_append]
  simp [List.getD, h, List.countP_cons]
theorem cnt_le (L : List Com) (xs : List Int) (i : Nat) : cnt L xs i ≤ xs.length := List.countP_le_length
theorem all_one (L : List Com) (a : Nat) (i : Nat) : all L [(a : Int)] i = (above L a).getD i false := by
  unfold all cnt
  cases h : (above L a).getD i false <;> simp_all
theorem all_two (L : List Com) (a b : Nat) (i : Nat) : all L [(a : Int), (b : Int)] i = both L a b i := by
  unfold all cnt both
  cases h : (above L a).getD i false <;> cases k : (above L b).getD i false <;> simp_all
theorem iset (m : List Int) (j i : Nat) (v : Int) (h : j < m.length) : (m.set j v).getD i 0 = if i = j then v else m.getD i 0 := by
  simp only [List.getD, List.getElem?_set]
  by_cases e : j = i
  · subst e; simp [h]
  · rw [if_neg e, if_neg (by omega)]
theorem range_above (L : List Com) (n c : Nat) (hn : L.length = n) (f : Nat → Bool) (h : ∀ i, i < n → f i = (above L c).getD i false) : (List.range n).map f = above L c := by
  apply List.ext_getElem
  · simp [above_len, hn]
  · intro i h1 h2
    have hi : i < n := by simpa using h1
    simp [h i hi, List.getD, h2]
end M
open Go.RowKit
def Io (w : World) (g : Nat) (m : List Int) : Prop := w.heap[g]? = some (.cells (m.map (Value.int .i64)).toArray 3 (0, 0))
theorem Io.cell {w : World} {g : Nat} {m : List Int} (h : Io w g m) {i : Nat} (hi : i < m.length) : w.cell? ⟨g, i, none⟩ = some (.int .i64 (m.getD i 0)) := by
  rw [cell_of_row w g i _ _ _ h]
  simp [List.getD, hi]
theorem Io.frozen {w : World} {g : Nat} {m : List Int} (h : Io w g m) (i : Nat) : w.frozen? ⟨g, i, none⟩ = false := frozen_of_row w g i _ _ h
theorem Io.lt {w : World} {g : Nat} {m : List Int} (h : Io w g m) : g < w.heap.size := (Array.getElem?_eq_some_iff.1 h).1
theorem Io.set {w : World} {g : Nat} {m : List Int} (h : Io w g m) (i : Nat) (t : Int) : Io (w.setCell ⟨g, i, none⟩ (.int .i64 t)) g (m.set i t) := by
  unfold Io
  rw [heap_setCell_same w g i _ _ _ h]
  simp [List.map_set]
theorem Io.below {w w' : World} {g B : Nat} {m : List Int} (h : Io w g m) (hb : Below B w w') (hg : g < B) : Io w' g m := (hb.block g hg).trans h
theorem Io.other {w : World} {g k : Nat} {m : List Int} (h : Io w g m) (i : Nat) (v : Value) (hg : g ≠ k) : Io (w.setCell ⟨k, i, none⟩ v) g m := (heap_setCell_other w ⟨k, i, none⟩ g v hg).trans h
theorem Bo.other {w : World} {g k : Nat} {m : List Bool} (h : Bo w g m) (i : Nat) (v : Value) (hg : g ≠ k) : Bo (w.setCell ⟨k, i, none⟩ v) g m := (heap_setCell_other w ⟨k, i, none⟩ g v hg).trans h
theorem make_int (n : Nat) (hn : n ≤ 1000) (W : World) : (Instr.makeSlice 24 (.int .i64 n) (.int .i64 n)).run Tryz.prog W = .ok (.slice (some ⟨W.heap.size, 0, none⟩) n n) (W.alloc (.cells ((List.replicate n 0).map (Value.int .i64)).toArray 3)) := by
  obtain ⟨i0, hi, hz0, hz1, hz2⟩ := info_parts infoInt
  have h := run_make (P := Tryz.prog) W 24 3 i0 _ Tryz.underlying24 hi hz0 .i64 .i64 n n (by omega) (by omega) (by rw [hz2]; omega) (by omega)
  rw [hz1] at h
  rw [h]
  have e : madeCells (Value.int .i64 0).cells ((n : Int).toNat * 1) = ((List.replicate n 0).map (Value.int .i64)).toArray := by
    apply Array.ext
    · simp [madeCells]
    · intro i h1 h2
      simp [madeCells, Value.cells, Nat.mod_one]
  rw [e]
  simp
def AllPost (L : List M.Com) (xs : List Int) (n : Nat) (w : World) (e : Ending) (w' : World) : Prop :=
  Below w.heap.size w w' ∧ (((∃ x ∈ xs, x < 0 ∨ (n : Int) ≤ x) ∧ e = .returned (.tuple #[.slice none 0 0, .int .i64 5])) ∨
    ((∀ x ∈ xs, 0 ≤ x ∧ x < (n : Int)) ∧ ∃ g, w.heap.size ≤ g ∧ e = .returned (.tuple #[.slice (some ⟨g, 0, none⟩) n n, .int .i64 0]) ∧ Bo w' g ((List.range n).map (M.all L xs))))
theorem aboveAll_bad (a : Option Addr) (n cap : Nat) (L : List M.Com) (v : Value) (w : World) (h : Cm w a n L) (hm : n ≤ 9223372036854775807) (hz : M.dchk L ≠ 0) :
    Calls Tryz.prog 145 #[.slice a n cap, v] w fun e w' => e = .returned (.tuple #[.slice none 0 0, .int .i64 (M.dchk L)]) ∧ Below w.heap.size w w' := by
  have H := dcheck_any a n cap L w h hm
  obtain ⟨c, hc⟩ : ∃ c, c = M.dchk L := ⟨_, rfl⟩
  rw [← hc] at H hz ⊢
  have hne : (c != 0) = true := by simp [hz]
  have HH : Hid (Calls Tryz.prog 29 #[.slice a n cap] w fun e w' => e = .returned (.int .i64 c) ∧ Below w.heap.size w w') := H
  clear H hz hc h
  go_enter Tryz.func145, Tryz.ntmps145
  go_wp2_with (go_at_call 29; refine HH.out.mono ?_; rintro e w' ⟨rfl, hb1⟩)
  go_ret2
  exact ⟨rfl, hb1⟩
set_option maxHeartbeats 8000000 in
theorem aboveAll_good (a : Option Addr) (n cap : Nat) (L : List M.Com) (b2 off2 q qc : Nat) (xs : List Int) (w : World) (h : Cm w a n L) (hz : M.dchk L = 0) (hq : q ≤ 2) (hl : xs.length = q) (hB2 : b2 < w.heap.size)
    (hc : ∀ i, i < q → w.cell? ⟨b2, off2 + i, none⟩ = some (.int .i64 (xs.getD i 0))) :
    Calls Tryz.prog 145 #[.slice a n cap, .slice (some ⟨b2, off2, none⟩) q qc] w fun e w' => AllPost L xs n w e w' := by
  have hR := M.dchk_zero hz
  have hn : n ≤ 14 := by rw [← h.1]; exact hR.1
  have H := dcheck_any a n cap L w h (by omega)
  rw [hz] at H
  have HH : Hid (Calls Tryz.prog 29 #[.slice a n cap] w fun e w' => e = .returned (.int .i64 0) ∧ Below w.heap.size w w') := H
  have HCm : Aside (Cm w a n L) := h
  have HC : Aside (∀ i, i < q → w.cell? ⟨b2, off2 + i, none⟩ = some (.int .i64 (xs.getD i 0))) := hc
  have HL : Aside (xs.length = q) := hl
  have HZ : Aside (M.dchk L = 0) := hz
  have hmk := make_int n (by omega)
  have hmk2 := make_bool n (by omega)
  obtain ⟨Z, hZ⟩ : ∃ Z, Z = ((List.replicate n 0).map (Value.int .i64)).toArray := ⟨_, rfl⟩
  obtain ⟨Z2, hZ2⟩ : ∃ Z2, Z2 = ((List.replicate n false).map Value.bool).toArray := ⟨_, rfl⟩
  rw [← hZ] at hmk
  rw [← hZ2] at hmk2
  have HZE : Aside (Z = ((List.replicate n 0).map (Value.int .i64)).toArray) := hZ
  have HZE2 : Aside (Z2 = ((List.replicate n false).map Value.bool).toArray) := hZ2
  clear H h hc hl hz hZ hZ2 hR
  go_enter Tryz.func145, Tryz.ntmps145
  go_wp2_with fail
  refine HH.out.mono ?_
  rintro e w1 ⟨rfl, hb1⟩
  have B0 : Aside (Io (w1.alloc (.cells Z 3)) w1.heap.size (List.replicate n 0)) := by unfold Aside Io; rw [heap_alloc_new, HZE.out]
  have hsz1 := hb1.size
  clear HH
  go_wp2
  go_loopg [25] q (fun g i wr => ∃ (k : Nat) (tm : List Int), k + g = q ∧ i = .int .i64 k ∧ Aside (tm.length = n) ∧ Aside (Io wr w1.heap.size tm) ∧ Aside (∀ i, i < n → tm.getD i 0 = ((M.cnt L (xs.take k) i : Nat) : Int)) ∧ Aside (∀ x ∈ xs.take k, 0 ≤ x ∧ x < (n : Int)) ∧ Below w1.heap.size w1 wr)
  case atStart => exact ⟨0, List.replicate n 0, by omega, rfl, by simp [Aside], B0, fun i hi => by simp [M.cnt, List.getD, hi], by simp [Aside], (Below.refl _ _).alloc (Nat.le_refl _) _⟩
  case round =>
    obtain ⟨k, tm, hk, rfl, HTL, HT, HTC, HIn, hbel⟩ := hrel
    have hbw : Below w.heap.size w wr := hb1.trans (hbel.mono hsz1)
    by_cases hlt : k < q
    · obtain ⟨x, hx⟩ : ∃ x, xs.getD k 0 = x := ⟨_, rfl⟩
      have c0 : wr.cell? ⟨b2, off2 + k, none⟩ = some (.int .i64 x) := by rw [hbw.cell (p := ⟨b2, off2 + k, none⟩) hB2, HC.out k hlt, hx]
      have HX : Aside (xs.getD k 0 = x) := hx
      have hmem : Aside (x ∈ xs) := by unfold Aside; rw [← hx]; have h2 := HL.out; simp [List.getD, h2, hlt]
      clear hx
      by_cases hneg : x < 0
      · have hd : decide (x < 0) = true := by simp [hneg]
        go_wp2
        go_ret2
        exact ⟨hbw, Or.inl ⟨⟨x, hmem.out, Or.inl hneg⟩, rfl⟩⟩
      · have hd : decide (x < 0) = false := by simp; omega
        by_cases hbig : (n : Int) ≤ x
        · go_wp2
          go_ret2
          exact ⟨hbw, Or.inl ⟨⟨x, hmem.out, Or.inr hbig⟩, rfl⟩⟩
        · obtain ⟨c, rfl⟩ : ∃ c : Nat, x = (c : Int) := ⟨x.toNat, by omega⟩
          have hd2 : decide ((n : Int) ≤ (c : Int)) = false := by simp; omega
          have hcn : c < n := by omega
          have HO := aboveOne_any a n cap L c wr (HCm.out.below hbw (Nat.le_refl _)) HZ.out hcn
          have HOO : Hid (Calls Tryz.prog 159 #[.slice a n cap, .int .i64 c] wr fun e w' => e = .returned (.slice (some ⟨wr.heap.size, 0, none⟩) n n) ∧ Bo w' wr.heap.size (M.above L c) ∧ Below wr.heap.size wr w') := HO
          have hT1 := HT.out.lt
          have HIn2 : Aside (∀ x ∈ xs.take (k + 1), 0 ≤ x ∧ x < (n : Int)) := by
            intro y hy
            rw [List.take_succ_eq_append_getElem (by rw [HL.out]; exact hlt)] at hy
            rcases List.mem_append.1 hy with h | h
            · exact HIn.out y h
            · have e : xs[k]'(by rw [HL.out]; exact hlt) = (c : Int) := by rw [← HX.out]; have h2 := HL.out; simp [List.getD, h2, hlt]
              rw [e] at h
              have : y = (c : Int) := by simpa using h
              omega
          have HCk : Aside (∀ i, M.cnt L (xs.take (k + 1)) i = M.cnt L (xs.take k) i + if (M.above L c).getD i false = true then 1 else 0) := fun i => by
            rw [M.cnt_take L xs k (by rw [HL.out]; exact hlt) i, HX.out]; simp
          obtain ⟨wo, hwo⟩ : ∃ wo, wo = wr.heap.size := ⟨_, rfl⟩
          rw [← hwo] at HOO hT1
          have HBW : Aside (Below w1.heap.size w1 wr) := hbel
          have HWO : Aside (wo = wr.heap.size) := hwo
          have HAb : Aside ((M.above L c).length = n) := by unfold Aside; rw [M.above_len]; exact HCm.out.1
          clear HO hwo hbel hbw HIn
          go_wp2_with fail
          refine HOO.out.mono ?_
          rintro e w2 ⟨rfl, hbo, hb2⟩
          have HBo : Aside (Bo w2 wo (M.above L c)) := hbo
          have HT2 : Aside (Io w2 w1.heap.size tm) := HT.out.below hb2 (by omega)
          have hb3 : Below w1.heap.size w1 w2 := HBW.out.trans (hb2.mono (by have := HBW.out.size; rw [HWO.out]; exact HBW.out.size))
          clear hbo hb2 HOO
          go_wp2
          go_loopg [41] n (fun g2 i ws => ∃ (j : Nat) (tn : List Int), j + g2 = n ∧ i = .int .i64 j ∧ Aside (tn.length = n) ∧ Aside (Io ws w1.heap.size tn) ∧ Aside (∀ i, i < n → tn.getD i 0 = if i < j then ((M.cnt L (xs.take (k + 1)) i : Nat) : Int) else ((M.cnt L (xs.take k) i : Nat) : Int)) ∧ Aside (Bo ws wo (M.above L c)) ∧ Below w1.heap.size w1 ws)
          case atStart => exact ⟨0, tm, by omega, rfl, HTL, HT2, fun i hi => by rw [if_neg (by omega)]; exact HTC.out i hi, HBo, hb3⟩
          case round =>
            obtain ⟨j, tn, hj, rfl, HNL, HN, HNC, HBo2, hb4⟩ := hrel
            by_cases hjl : j < n
            · have cb := HBo2.out.cell (i := j) (by rw [HAb.out]; exact hjl)
              have ci := HN.out.cell (i := j) (by rw [HNL.out]; exact hjl)
              have fi := HN.out.frozen j
              have hcl := M.cnt_le L (xs.take k) j
              rw [List.length_take, HL.out] at hcl
              have hcj := HCk.out j
              have hnj := HNC.out j hjl
              rw [if_neg (by omega)] at hnj
              rw [hnj] at ci
              obtain ⟨d, hd'⟩ : ∃ d, M.cnt L (xs.take k) j = d := ⟨_, rfl⟩
              rw [hd'] at ci hcl hcj
              obtain ⟨t, ht⟩ : ∃ t, (M.above L c).getD j false = t := ⟨_, rfl⟩
              rw [ht] at cb hcj
              have hd3 : d ≤ 2 := by omega
              have HD : Aside (M.cnt L (xs.take k) j = d) := hd'
              cases t with
              | true =>
                rw [if_pos rfl] at hcj
                have HN' : Aside (Io (wr.setCell ⟨w1.heap.size, j, none⟩ (.int .i64 ((d : Int) + 1))) w1.heap.size (tn.set j ((d : Int) + 1))) := HN.out.set j _
                have HNC' : Aside (∀ i, i < n → (tn.set j ((d : Int) + 1)).getD i 0 = if i < j + 1 then ((M.cnt L (xs.take (k + 1)) i : Nat) : Int) else ((M.cnt L (xs.take k) i : Nat) : Int)) := fun i hi => by
                  rw [M.iset tn j i _ (by rw [HNL.out]; exact hjl)]
                  by_cases e : i = j
                  · subst e; rw [if_pos rfl, if_pos (by omega), hcj]; simp
                  · rw [if_neg e, HNC.out i hi]
                    by_cases e2 : i < j
                    · rw [if_pos e2, if_pos (by omega)]
                    · rw [if_neg e2, if_neg (by omega)]
                have HBo3 : Aside (Bo (wr.setCell ⟨w1.heap.size, j, none⟩ (.int .i64 ((d : Int) + 1))) wo (M.above L c)) := HBo2.out.other j _ (by omega)
                have hb5 := hb4.setCell (p := ⟨w1.heap.size, j, none⟩) (Nat.le_refl _) (.int .i64 ((d : Int) + 1))
                clear hd' hcj hnj ht hcl
                go_wp2
                go_roundg (gk - 1)
                case measure => omega
                case rel => exact ⟨j + 1, tn.set j ((d : Int) + 1), by omega, by go_num, by simpa [Aside] using HNL.out, HN', HNC', HBo3, hb5⟩
              | false =>
                rw [if_neg (by simp)] at hcj
                have HNC' : Aside (∀ i, i < n → tn.getD i 0 = if i < j + 1 then ((M.cnt L (xs.take (k + 1)) i : Nat) : Int) else ((M.cnt L (xs.take k) i : Nat) : Int)) := fun i hi => by
                  rw [HNC.out i hi]
                  by_cases e : i = j
                  · subst e; rw [if_neg (by omega), if_pos (by omega), hcj, HD.out]; simp
                  · by_cases e2 : i < j
                    · rw [if_pos e2, if_pos (by omega)]
                    · rw [if_neg e2, if_neg (by omega)]
                clear hd' hcj hnj ht hcl
                go_wp2
                go_roundg (gk - 1)
                case measure => omega
                case rel => exact ⟨j + 1, tn, by omega, by go_num, HNL, HN, HNC', HBo2, hb4⟩
            · obtain rfl : j = n := by omega
              have HNC' : Aside (∀ i, i < j → tn.getD i 0 = ((M.cnt L (xs.take (k + 1)) i : Nat) : Int)) := fun i hi => by rw [HNC.out i hi, if_pos hi]
              go_wp2
              go_roundg (q - (k + 1))
              case measure => omega
              case rel => exact ⟨k + 1, tn, by omega, by go_num, HNL, HN, HNC', HIn2, hb4⟩
    · obtain rfl : k = q := by omega
      have et : xs.take k = xs := List.take_of_length_le (by rw [HL.out]; exact Nat.le_refl _)
      have HIn3 : Aside (∀ x ∈ xs, 0 ≤ x ∧ x < (n : Int)) := by have h := HIn.out; rw [et] at h; exact h
      have HTC3 : Aside (∀ i, i < n → tm.getD i 0 = ((M.cnt L xs i : Nat) : Int)) := by have h := HTC.out; rw [et] at h; exact h
      obtain ⟨wo, hwo⟩ : ∃ wo, wo = wr.heap.size := ⟨_, rfl⟩
      have HWO : Aside (wo = wr.heap.size) := hwo
      have hT1 := HT.out.lt
      rw [← hwo] at hT1
      have HT2 : Aside (Io (wr.alloc (.cells Z2 4)) w1.heap.size tm) := HT.out.below ((Below.refl wr.heap.size wr).alloc (Nat.le_refl _) _) (by omega)
      have B2 : Aside (Bo (wr.alloc (.cells Z2 4)) wo (List.replicate n false)) := by unfold Aside Bo; rw [HWO.out, heap_alloc_new, HZE2.out]
      have hb4 := hbel.alloc hbel.size (.cells Z2 4)
      clear et HTC HIn hwo
      go_wp2
      rw [← HWO.out]
      go_loopg [60] n (fun g2 i ws => ∃ (j : Nat) (m : List Bool), j + g2 = n ∧ i = .int .i64 j ∧ Aside (m.length = n) ∧ Aside (Io ws w1.heap.size tm) ∧ Aside (Bo ws wo m) ∧ Aside (∀ i, i < j → m.getD i false = M.all L xs i) ∧ Below w1.heap.size w1 ws)
      case atStart => exact ⟨0, List.replicate n false, by omega, rfl, by simp [Aside], HT2, B2, fun i hi => by omega, hb4⟩
      case round =>
        obtain ⟨j, m, hj, rfl, HML, HN, HB, HMC, hb5⟩ := hrel
        by_cases hjl : j < n
        · have ci := HN.out.cell (i := j) (by rw [HTL.out]; exact hjl)
          have cb := HB.out.cell (i := j) (by rw [HML.out]; exact hjl)
          have fb := HB.out.frozen j
          obtain ⟨tb, htb⟩ : ∃ tb, m.getD j false = tb := ⟨_, rfl⟩
          rw [htb] at cb
          have e1 := HTC3.out j hjl
          rw [e1] at ci
          have e2 : M.all L xs j = decide (((M.cnt L xs j : Nat) : Int) = ((k : Nat) : Int)) := by unfold M.all; rw [HL.out]
          obtain ⟨d, hd⟩ : ∃ d, M.cnt L xs j = d := ⟨_, rfl⟩
          rw [hd] at ci e2
          have HE : Aside (M.all L xs j = decide ((d : Int) = (k : Int))) := e2
          have step : ∀ u : Bool, u = M.all L xs j → Aside (∀ i, i < j + 1 → (m.set j u).getD i false = M.all L xs i) := fun u hu i hi => by
            by_cases e : i = j
            · subst e; rw [← hu]; simp [List.getD, HML.out, hjl]
            · rw [← HMC.out i (by omega)]; simp only [List.getD, List.getElem?_set]; rw [if_neg (by omega)]
          by_cases hdk : (d : Int) = (k : Int)
          · have hdb : ((d : Int) == (k : Int)) = true := by simp [hdk]
            have HMC' := step true (by rw [HE.out, decide_eq_true hdk])
            have HN' : Aside (Io (wr.setCell ⟨wo, j, none⟩ (.bool true)) w1.heap.size tm) := HN.out.other j _ (by omega)
            have HB' : Aside (Bo (wr.setCell ⟨wo, j, none⟩ (.bool true)) wo (m.set j true)) := HB.out.set j true
            have hb6 := hb5.setCell (p := ⟨wo, j, none⟩) (by show _ ≤ wo; omega) (.bool true)
            clear hd e1 e2 hdk step htb
            go_wp2
            go_roundg (gk - 1)
            case measure => omega
            case rel => exact ⟨j + 1, m.set j true, by omega, by go_num, by simpa [Aside] using HML.out, HN', HB', HMC', hb6⟩
          · have hdb : ((d : Int) == (k : Int)) = false := by simp; omega
            have HMC' := step false (by rw [HE.out, decide_eq_false hdk])
            have HN' : Aside (Io (wr.setCell ⟨wo, j, none⟩ (.bool false)) w1.heap.size tm) := HN.out.other j _ (by omega)
            have HB' : Aside (Bo (wr.setCell ⟨wo, j, none⟩ (.bool false)) wo (m.set j false)) := HB.out.set j false
            have hb6 := hb5.setCell (p := ⟨wo, j, none⟩) (by show _ ≤ wo; omega) (.bool false)
            clear hd e1 e2 hdk step htb
            go_wp2
            go_roundg (gk - 1)
            case measure => omega
            case rel => exact ⟨j + 1, m.set j false, by omega, by go_num, by simpa [Aside] using HML.out, HN', HB', HMC', hb6⟩
        · obtain rfl : j = n := by omega
          have em : m = (List.range j).map (M.all L xs) := by
            apply List.ext_getElem
            · simp; exact HML.out
            · intro i h1 h2
              have hi : i < j := by simpa using h2
              have := HMC.out i hi
              simp [List.getD, h1] at this
              simp [this]
          have HB' : Aside (Bo wr wo ((List.range j).map (M.all L xs))) := by unfold Aside; rw [← em]; exact HB.out
          clear em
          go_wp2
          go_ret2
          exact ⟨hb1.trans (hb5.mono hsz1), Or.inr ⟨HIn3.out, wo, by omega, rfl, HB'.out⟩⟩
end Go.Proofs.YtcgpgflnihjpiagGreat
namespace Go.Proofs.YtcgpgflnihjpiagGreat
open Go.RowKit
theorem AllPost.of {L : List M.Com} {xs : List Int} {n : Nat} {w w1 : World} {e : Ending} {w' : World} (h : AllPost L xs n w1 e w') (hb : Below w.heap.size w w1) : AllPost L xs n w e w' := by
  have hs := hb.size
  obtain ⟨h1, h2⟩ := h
  refine ⟨hb.trans (h1.mono hs), ?_⟩
  rcases h2 with h2 | ⟨h3, g, hg, h4⟩
  · exact Or.inl h2
  · exact Or.inr ⟨h3, g, by omega, h4⟩
theorem dabove_good (a : Option Addr) (n cap : Nat) (L : List M.Com) (x : Int) (w : World) (h : Cm w a n L) (hz : M.dchk L = 0) :
    Calls Tryz.prog 119 #[.slice a n cap, .int .i64 x] w fun e w' => AllPost L [x] n w e w' := by
  have hb : Below w.heap.size w (w.alloc (.cells #[.int .i64 x] 3)) := (Below.refl _ _).alloc (Nat.le_refl _) _
  have H := aboveAll_good a n cap L w.heap.size 0 1 1 [x] (w.alloc (.cells #[.int .i64 x] 3)) (h.below hb (Nat.le_refl _)) hz (by omega) rfl (by simp) (ri_one w x)
  have HH : Hid (Calls Tryz.prog 145 #[.slice a n cap, .slice (some ⟨w.heap.size, 0, none⟩) 1 1] (w.alloc (.cells #[.int .i64 x] 3)) fun e w' => AllPost L [x] n (w.alloc (.cells #[.int .i64 x] 3)) e w') := H
  clear H hz h
  go_enter Tryz.func119, Tryz.ntmps119
  go_wp2_with fail
  refine HH.out.mono ?_
  intro e w' hp
  have hp2 := hp.of hb
  obtain ⟨k1, k2⟩ := hp2
  rcases k2 with ⟨k2, rfl⟩ | ⟨k2, g, k3, rfl, k4⟩
  · go_wp2
    go_ret2
    exact ⟨k1, Or.inl ⟨k2, rfl⟩⟩
  · have K4 : Hid (Bo w' g ((List.range n).map (M.all L [x]))) := k4
    clear k4
    go_wp2
    go_ret2
    exact ⟨k1, Or.inr ⟨k2, g, k3, rfl, K4.out⟩⟩
theorem dabove_in (a : Option Addr) (n cap : Nat) (C : List M.Com) (x : Nat) (w : World) (h : Cm w a n C) (hz : M.dchk C = 0) (hx : x < n) :
    Calls Tryz.prog 119 #[.slice a n cap, .int .i64 x] w fun e w' => ∃ g, e = .returned (.tuple #[.slice (some ⟨g, 0, none⟩) n n, .int .i64 0]) ∧ w.heap.size ≤ g ∧ Bo w' g (M.above C x) ∧ Below w.heap.size w w' := by
  have hl := h.1
  refine (dabove_good a n cap C x w h hz).mono ?_
  rintro e w1 ⟨hb1, hor⟩
  rcases hor with ⟨hr, rfl⟩ | ⟨hr, g, hg, rfl, hbo⟩
  · obtain ⟨z, hz, hr⟩ := hr
    simp at hz
    omega
  · rw [M.range_above C n x hl _ (fun i _ => M.all_one C x i)] at hbo
    exact ⟨g, rfl, hg, hbo, hb1⟩
def BasesPost (L : List M.Com) (x y : Int) (n : Nat) (w : World) (e : Ending) (w' : World) : Prop :=
  Below w.heap.size w w' ∧ (((x < 0 ∨ (n : Int) ≤ x ∨ y < 0 ∨ (n : Int) ≤ y) ∧ e = .returned (.tuple #[.slice none 0 0, .int .i64 5])) ∨
    ((0 ≤ x ∧ x < (n : Int) ∧ 0 ≤ y ∧ y < (n : Int)) ∧ ∃ v, e = .returned (.tuple #[v, .int .i64 0]) ∧ OwnI w' w.heap.size v (M.bases L x.toNat y.toNat)))
set_option maxHeartbeats 8000000 in
theorem dbases_good (a : Option Addr) (n cap : Nat) (L : List M.Com) (x y : Int) (w : World) (h : Cm w a n L) (hz : M.dchk L = 0) :
    Calls Tryz.prog 122 #[.slice a n cap, .int .i64 x, .int .i64 y] w fun e w' => BasesPost L x y n w e w' := by
  have hR := M.dchk_zero hz
  have hn : n ≤ 14 := by rw [← h.1]; exact hR.1
  have hb : Below w.heap.size w (w.alloc (.cells #[.int .i64 x, .int .i64 y] 3)) := (Below.refl _ _).alloc (Nat.le_refl _) _
  have H := aboveAll_good a n cap L w.heap.size 0 2 2 [x, y] (w.alloc (.cells #[.int .i64 x, .int .i64 y] 3)) (h.below hb (Nat.le_refl _)) hz (by omega) rfl (by simp) (ri_two w x y)
  have HH : Hid (Calls Tryz.prog 145 #[.slice a n cap, .slice (some ⟨w.heap.size, 0, none⟩) 2 2] (w.alloc (.cells #[.int .i64 x, .int .i64 y] 3)) fun e w' => AllPost L [x, y] n (w.alloc (.cells #[.int .i64 x, .int .i64 y] 3)) e w') := H
  have HCm : Aside (Cm w a n L) := h
  have HRt : Aside (M.Right L) := hR.2
  have HL : Aside (L.length = n) := h.1
  have hmk := make_bool n (by omega)
  obtain ⟨Z, hZ⟩ : ∃ Z, Z = ((List.replicate n false).map Value.bool).toArray := ⟨_, rfl⟩
  rw [← hZ] at hmk
  have HZE : Aside (Z = ((List.replicate n false).map Value.bool).toArray) := hZ
  clear H hz h hR hZ
  go_enter Tryz.func122, Tryz.ntmps122
  go_wp2_with fail
  refine HH.out.mono ?_
  intro e w1 hp
  obtain ⟨k1, k2⟩ := hp.of hb
  clear hp HH hb
  rcases k2 with ⟨k2, rfl⟩ | ⟨k2, g0, k3, rfl, k4⟩
  · go_wp2
    go_ret2
    refine ⟨k1, Or.inl ⟨?_, rfl⟩⟩
    obtain ⟨z, hz, hr⟩ := k2
    simp at hz
    rcases hz with rfl | rfl <;> omega
  · have kx := k2 x (by simp)
    have ky := k2 y (by simp)
    clear k2
    obtain ⟨xn, rfl⟩ : ∃ xn : Nat, x = (xn : Int) := ⟨x.toNat, by omega⟩
    obtain ⟨yn, rfl⟩ : ∃ yn : Nat, y = (yn : Int) := ⟨y.toNat, by omega⟩
    have hxn : xn < n := by omega
    have hyn : yn < n := by omega
    obtain ⟨m0, hm0⟩ : ∃ m0, m0 = (List.range n).map (M.all L [(xn : Int), (yn : Int)]) := ⟨_, rfl⟩
    rw [← hm0] at k4
    have M0L : Aside (m0.length = n) := by unfold Aside; rw [hm0]; simp
    have M0C : Aside (∀ i, i < n → m0.getD i false = M.both L xn yn i) := fun i hi => by rw [hm0, ← M.all_two]; simp [List.getD, hi]
    have HB0 : Aside (Bo w1 g0 m0) := k4
    have hg1 := k4.lt
    obtain ⟨F, hF⟩ : ∃ F, F = w1.heap.size := ⟨_, rfl⟩
    have HF : Aside (F = w1.heap.size) := hF
    have BF : Aside (Bo (w1.alloc (.cells Z 4)) F (M.furF L (M.both L xn yn) 0)) := by unfold Aside Bo; rw [hF, heap_alloc_new, HZE.out, M.furF, HL.out]
    have B0' : Aside (Bo (w1.alloc (.cells Z 4)) g0 m0) := k4.below ((Below.refl w1.heap.size w1).alloc (Nat.le_refl _) _) hg1
    have hb1 : Below F w1 (w1.alloc (.cells Z 4)) := (Below.refl _ _).alloc (by omega) _
    have hgF : g0 < F := by omega
    have hwF : w.heap.size ≤ F := by rw [hF]; exact k1.size
    clear hm0 k4 hF kx ky hg1
    go_wp2
    rw [← HF.out]
    go_loopg [31] n (fun g i wr => ∃ k : Nat, k + g = n ∧ i = .int .i64 k ∧ Aside (Bo wr g0 m0) ∧ Aside (Bo wr F (M.furF L (M.both L xn yn) k)) ∧ Below F w1 wr)
    case atStart => exact ⟨0, by omega, rfl, B0', BF, hb1⟩
    case round =>
      obtain ⟨k, hk, rfl, HB, HFu, hbel⟩ := hrel
      have hbw : Below w.heap.size w wr := k1.trans (hbel.mono hwF)
      by_cases hlt : k < n
      · obtain ⟨b, off, rfl, hB, hc⟩ : ∃ b off, a = some ⟨b, off, none⟩ ∧ b < w.heap.size ∧ ∀ i, i < n → ∃ a1 n1 c1 a2 n2 c2, w.cell? ⟨b, off + i * 2, none⟩ = some (.slice a1 n1 c1) ∧ w.cell? ⟨b, off + i * 2 + 1, none⟩ = some (.slice a2 n2 c2) ∧ Rd w a1 n1 (L.getD i ([], [])).1 ∧ Ri w a2 n2 (L.getD i ([], [])).2 ∧ n1 ≤ 9223372036854775807 ∧ n2 ≤ 9223372036854775807 := by
          rcases HCm.out.cases with ⟨h0, _⟩ | ⟨b, off, e, _, _, hB, hc⟩
          · omega
          · exact ⟨b, off, e, hB, hc⟩
        obtain ⟨a1, n1, d1, a2, n2, d2, q1, q2, r1, r2, m1, m2⟩ := hc k hlt
        have c0 : wr.cell? ⟨b, off + k * 2, none⟩ = some (.slice a1 n1 d1) := (hbw.cell (p := ⟨b, off + k * 2, none⟩) hB).trans q1
        have c1 : wr.cell? ⟨b, off + k * 2 + 1, none⟩ = some (.slice a2 n2 d2) := (hbw.cell (p := ⟨b, off + k * 2 + 1, none⟩) hB).trans q2
        have cb := HB.out.cell (i := k) (by rw [M0L.out]; exact hlt)
        obtain ⟨t, ht⟩ : ∃ t, m0.getD k false = t := ⟨_, rfl⟩
        rw [ht] at cb
        have HT : Aside (M.both L xn yn k = t) := by unfold Aside; rw [← M0C.out k hlt]; exact ht
        obtain ⟨Wa, hWa⟩ : ∃ Wa, Wa = wr.alloc (.cells #[.slice a1 n1 d1, .slice a2 n2 d2] 54) := ⟨_, rfl⟩
        have hba : Below wr.heap.size wr Wa := by rw [hWa]; exact (Below.refl _ _).alloc (Nat.le_refl _) _
        have hFlt := HFu.out.lt
        have hglt := HB.out.lt
        have HBa : Aside (Bo Wa g0 m0) := HB.out.below hba hglt
        have HFa : Aside (Bo Wa F (M.furF L (M.both L xn yn) k)) := HFu.out.below hba hFlt
        have hbela : Below F w1 Wa := hbel.trans (hba.mono (by omega))
        have hRk := HRt.out k (by rw [HL.out]; exact hlt)
        have hr2 := (r2.below hbw (Nat.le_refl _)).below hba (Nat.le_refl _)
        have HM : Aside (Calls Tryz.prog 148 #[.slice (some ⟨F, 0, none⟩) n n, .slice a2 n2 d2] Wa fun e w' => (∃ v, e = .returned v) ∧ Bo w' F (M.mark (M.furF L (M.both L xn yn) k) (L.getD k ([], [])).2) ∧ Poked F Wa w') := by
          by_cases h0 : n2 = 0
          · subst h0
            have e : (L.getD k ([], [])).2 = [] := List.eq_nil_of_length_eq_zero r2.1
            rw [e]
            refine (dmark_none _ n n a2 d2 _).mono ?_
            rintro e w' ⟨hv, rfl⟩
            exact ⟨hv, HFa.out, Poked.refl _ _⟩
          · refine dmark_any a2 n2 d2 F n n _ _ _ hr2 (by rw [← r2.1]; exact hRk.2.1) (by rw [M.furF_len]; exact HL.out) (fun b' off' e => ?_) (fun p hp => by have := hRk.2.2 p hp; omega) HFa.out
            rcases r2.2 with h1 | ⟨b3, off3, e3, hlt3, _⟩
            · exact absurd h1 h0
            · rw [e] at e3
              cases e3
              omega
        have HWa : Hid (Wa = wr.alloc (.cells #[.slice a1 n1 d1, .slice a2 n2 d2] 54)) := hWa
        clear ht hWa hba hRk hr2 hc q1 q2 r1 r2
        cases t with
        | true =>
          go_wp2_with fail
          rw [← HWa.out]
          refine HM.out.mono ?_
          rintro e w2 ⟨⟨v, rfl⟩, hbo, hpk⟩
          have HF2 : Aside (Bo w2 F (M.furF L (M.both L xn yn) (k + 1))) := by unfold Aside; rw [M.furF, if_pos HT.out]; exact hbo
          have HB2 : Aside (Bo w2 g0 m0) := HBa.out.keep hpk (by omega)
          have hb2 := hbela.trans (hpk.below (Nat.le_refl _))
          clear hbo hpk
          go_wp2
          go_roundg (gk - 1)
          case measure => omega
          case rel => exact ⟨k + 1, by omega, by go_num, HB2, HF2, hb2⟩
        | false =>
          have HF2 : Aside (Bo Wa F (M.furF L (M.both L xn yn) (k + 1))) := by unfold Aside; rw [M.furF, if_neg (by rw [HT.out]; simp)]; exact HFa.out
          rw [HWa.out] at HF2 HBa hbela
          go_wp2
          go_roundg (gk - 1)
          case measure => omega
          case rel => exact ⟨k + 1, by omega, by go_num, HBa, HF2, hbela⟩
      · obtain rfl : k = n := by omega
        have hFlt := HFu.out.lt
        have hglt := HB.out.lt
        obtain ⟨w3, hw3⟩ : ∃ w3, w3 = wr := ⟨_, rfl⟩
        rw [← hw3] at HFu HB hFlt hglt hbel hbw
        have HW3 : Aside (w3 = wr) := hw3
        have hw3s := hbw.size
        clear hw3
        go_wp2
        rw [← HW3.out]
        go_loopg [13, 47] k (fun g v i ws => ∃ j : Nat, j + g = k ∧ i = .int .i64 j ∧ Aside (OwnI ws w3.heap.size v (M.sel (M.isBase L xn yn) j)) ∧ Below w3.heap.size w3 ws)
        case atStart => exact ⟨0, by omega, rfl, OwnI.nil _ _, Below.refl _ _⟩
        case round =>
          obtain ⟨j, hj, rfl, HO, hb3⟩ := hrel
          by_cases hjl : j < k
          · have cb := (HB.out.below hb3 hglt).cell (i := j) (by rw [M0L.out]; exact hjl)
            have cf := (HFu.out.below hb3 hFlt).cell (i := j) (by rw [M.furF_len, HL.out]; exact hjl)
            have eb : M.isBase L xn yn j = (m0.getD j false && !((M.furF L (M.both L xn yn) k).getD j false)) := by unfold M.isBase; rw [M0C.out j hjl, HL.out]
            obtain ⟨t1, ht1⟩ : ∃ t, m0.getD j false = t := ⟨_, rfl⟩
            obtain ⟨t2, ht2⟩ : ∃ t, (M.furF L (M.both L xn yn) k).getD j false = t := ⟨_, rfl⟩
            rw [ht1] at cb eb
            rw [ht2] at cf eb
            have HS : Aside (M.sel (M.isBase L xn yn) (j + 1) = if (t1 && !t2) = true then M.sel (M.isBase L xn yn) j ++ [(j : Int)] else M.sel (M.isBase L xn yn) j) := by unfold Aside; rw [M.sel, eb]
            clear ht1 ht2 eb
            have hszj := hb3.size
            by_cases hyes : t1 = true ∧ t2 = false
            · obtain ⟨rfl, rfl⟩ := hyes
              have HO1 : Aside (OwnI (wr.alloc (.cells #[.int .i64 (j : Int)] 3)) w3.heap.size u13 (M.sel (M.isBase L xn yn) j)) := World.ownsRow.alloc HO.out _
              have HLe : Aside ((M.sel (M.isBase L xn yn) j).length + 1 ≤ 1000000) := by have := M.sel_len (M.isBase L xn yn) j; unfold Aside; omega
              go_wp2_with (at_builtin; refine append_ri rfl _ _ rfl w3.heap.size _ (M.sel (M.isBase L xn yn) j) rfl HO1.out wr.heap.size 1 1 [(j : Int)] rfl rfl (ri_one wr _) HLe.out (by simp; omega) ?_)
              intro v' w' ho' hb4 _
              have HO' : Aside (OwnI w' w3.heap.size v' (M.sel (M.isBase L xn yn) (j + 1))) := by unfold Aside; rw [HS.out]; exact ho'
              have hb5 : Below w3.heap.size w3 w' := (hb3.alloc hb3.size _).trans hb4
              clear ho' hb4 HO1
              go_wp2
              go_roundg (gk - 1)
              case measure => omega
              case rel => exact ⟨j + 1, by omega, by go_num, HO', hb5⟩
            · have HO' : Aside (OwnI wr w3.heap.size u13 (M.sel (M.isBase L xn yn) (j + 1))) := by
                unfold Aside
                rw [HS.out]
                cases t1 <;> cases t2 <;> first | exact HO.out | exact absurd ⟨rfl, rfl⟩ hyes
              cases t1 with
              | true =>
                cases t2 with
                | true =>
                  go_wp2
                  go_roundg (gk - 1)
                  case measure => omega
                  case rel => exact ⟨j + 1, by omega, by go_num, HO', hb3⟩
                | false => exact absurd ⟨rfl, rfl⟩ hyes
              | false =>
                go_wp2
                go_roundg (gk - 1)
                case measure => omega
                case rel => exact ⟨j + 1, by omega, by go_num, HO', hb3⟩
          · obtain rfl : j = k := by omega
            have HO' : Aside (OwnI wr w3.heap.size u13 (M.bases L xn yn)) := by unfold Aside M.bases; rw [HL.out]; exact HO.out
            go_wp2
            go_ret2
            exact ⟨hbw.trans (hb3.mono hw3s), Or.inr ⟨⟨by omega, by omega, by omega, by omega⟩, _, rfl, HO'.out.mono hw3s⟩⟩
end Go.Proofs.YtcgpgflnihjpiagGreat
namespace Go.Proofs.YtcgpgflnihjpiagGreat
open Go.RowKit Go.Shelf
theorem isAbove_any (D base : Nat) (C : List M.Com) (H : List M.Hd) (A : List Int) (x n : Nat) (w : World) (hD : DeskAt w base D C H A) (hz : M.dchk C = 0) (hx : x < C.length) (hn : n < C.length) :
    Calls Tryz.prog 83 #[.pointer (some ⟨D, 0, none⟩), .int .i64 x, .int .i64 n] w fun e w' => e = .returned (.bool ((M.above C n).getD x false)) ∧ Below w.heap.size w w' := by
  obtain ⟨xv, y, z, h1, _, h3, _, _⟩ := hD
  obtain ⟨a, cap, rfl, hcm, _⟩ := h3.cm
  have k0 : w.cell? ⟨D, 0, none⟩ = some (.slice a C.length cap) := by rw [cell_of_row _ _ _ _ _ _ h1]; rfl
  have K := dabove_in a C.length cap C n w hcm hz hn
  obtain ⟨m, hm⟩ : ∃ m, m = C.length := ⟨_, rfl⟩
  obtain ⟨B, hB⟩ : ∃ B, B = M.above C n := ⟨_, rfl⟩
  have hBl : B.length = m := by rw [hB, M.above_len, hm]
  rw [← hm] at K k0 hx
  rw [← hB] at K ⊢
  have KK : Hid (Calls Tryz.prog 119 #[.slice a m cap, .int .i64 n] w fun e w' => ∃ g, e = .returned (.tuple #[.slice (some ⟨g, 0, none⟩) m m, .int .i64 0]) ∧ w.heap.size ≤ g ∧ Bo w' g B ∧ Below w.heap.size w w') := K
  have HBl : Aside (B.length = m) := hBl
  have hxi : (x : Int) < (m : Int) := by omega
  clear K h1 h3 hcm hm hB hBl hz hn
  go_enter Tryz.func83, Tryz.ntmps83
  go_wp2_with fail
  refine KK.out.mono ?_
  rintro e w1 ⟨g, rfl, _, hbo, hb⟩
  have c1 := hbo.cell (i := x) (by rw [HBl.out]; exact hx)
  obtain ⟨t, ht⟩ : ∃ t, B.getD x false = t := ⟨_, rfl⟩
  rw [ht] at c1
  have HT : Aside (B.getD x false = t) := ht
  clear hbo ht KK
  go_wp2
  go_ret
  exact ⟨ret_bool HT.out.symm, hb⟩
def M.baseR (C : List M.Com) (a b : Nat) : List (Int × Int) := if (M.bases C a b).length = 0 then [] else (C.getD ((M.bases C a b).getD ((M.bases C a b).length - 1) 0).toNat ([], [])).1
set_option maxHeartbeats 2000000 in
theorem dbase_any (D base : Nat) (C : List M.Com) (H : List M.Hd) (A : List Int) (x n : Nat) (w : World) (hD : DeskAt w base D C H A) (hz : M.dchk C = 0) (hx : x < C.length) (hn : n < C.length) :
    Calls Tryz.prog 88 #[.pointer (some ⟨D, 0, none⟩), .int .i64 x, .int .i64 n] w fun e w' => ∃ a cap, e = .returned (.slice a (M.baseR C x n).length cap) ∧ Rd w' a (M.baseR C x n).length (M.baseR C x n) ∧ (M.baseR C x n).length ≤ 9223372036854775807 ∧ Below w.heap.size w w' := by
  have hD0 := hD
  obtain ⟨xv, y, z, h1, _, h3, _, _⟩ := hD
  obtain ⟨a, cap, rfl, hcm, _⟩ := h3.cm
  have k0 : w.cell? ⟨D, 0, none⟩ = some (.slice a C.length cap) := by rw [cell_of_row _ _ _ _ _ _ h1]; rfl
  have K := dbases_good a C.length cap C x n w hcm hz
  have hBin : ∀ v ∈ M.bases C x n, 0 ≤ v ∧ v < (C.length : Int) := by
    intro v hv
    unfold M.bases at hv
    obtain ⟨k, hk, _, rfl⟩ := (M.mem_sel _ _ _).1 hv
    omega
  have hBl : (M.bases C x n).length ≤ C.length := M.sel_len _ _
  have hC14 : C.length ≤ 14 := (M.dchk_zero hz).1
  obtain ⟨L, hL⟩ : ∃ L, L = M.bases C x n := ⟨_, rfl⟩
  obtain ⟨R, hR⟩ : ∃ R, R = M.baseR C x n := ⟨_, rfl⟩
  rw [← hL] at hBin hBl
  have hRd : R = if L.length = 0 then [] else (C.getD (L.getD (L.length - 1) 0).toNat ([], [])).1 := by rw [hR, M.baseR, ← hL]
  rw [← hR]
  have KK : Hid (Calls Tryz.prog 122 #[.slice a C.length cap, .int .i64 x, .int .i64 n] w fun e w' => ∃ v, e = .returned (.tuple #[v, .int .i64 0]) ∧ OwnI w' w.heap.size v L ∧ Below w.heap.size w w') := K.mono fun e w' ⟨hb, h2⟩ => by
    rcases h2 with ⟨hr, _⟩ | ⟨_, v, he, ho⟩
    · omega
    · rw [Int.toNat_natCast, Int.toNat_natCast, ← hL] at ho
      exact ⟨v, he, ho, hb⟩
  have HD : Aside (DeskAt w base D C H A) := hD0
  have HR : Aside (R = if L.length = 0 then [] else (C.getD (L.getD (L.length - 1) 0).toNat ([], [])).1) := hRd
  have HIn : Aside (∀ v ∈ L, 0 ≤ v ∧ v < (C.length : Int)) := hBin
  clear K h1 h3 hcm hL hR hRd hBin hz hD0
  go_enter Tryz.func88, Tryz.ntmps88
  go_wp2_with fail
  refine KK.out.mono ?_
  rintro e w1 ⟨v, rfl, ho, hb⟩
  obtain ⟨la, lc, rfl, hri, _⟩ := ho.ri
  obtain ⟨ln, hln⟩ : ∃ ln, ln = L.length := ⟨_, rfl⟩
  rw [← hln] at hri hBl ⊢
  by_cases h0 : ln = 0
  · subst h0
    have ER : Aside (R = []) := by unfold Aside; rw [HR.out, if_pos hln.symm]
    clear hri ho hln
    go_wp2
    go_ret
    rw [ER.out]
    exact ⟨none, 0, rfl, Rd.zero rfl rfl, by simp, hb⟩
  · obtain ⟨m, rfl⟩ : ∃ m, ln = m + 1 := ⟨ln - 1, by omega⟩
    obtain ⟨b, off, rfl, cl⟩ : ∃ b off, la = some ⟨b, off, none⟩ ∧ w1.cell? ⟨b, off + m, none⟩ = some (.int .i64 (L.getD m 0)) := by
      rcases hri.cases with ⟨h, _⟩ | ⟨b, off, e, _, _, _, hc⟩
      · omega
      · exact ⟨b, off, e, hc m (by omega)⟩
    have hmem : L.getD m 0 ∈ L := by simp [List.getD, ← hln]
    have hin := HIn.out _ hmem
    obtain ⟨q, hq⟩ : ∃ q : Nat, L.getD m 0 = (q : Int) := ⟨(L.getD m 0).toNat, by omega⟩
    rw [hq] at cl hin
    have ER : Aside (R = (C.getD q ([], [])).1) := by
      unfold Aside
      rw [HR.out, if_neg (by omega), show L.length - 1 = m by omega, hq]
      rfl
    have KR := drows_any D base C H A q w1 (HD.out.later hb) (by omega)
    rw [← ER.out] at KR
    have HKR : Hid (Calls Tryz.prog 74 #[.pointer (some ⟨D, 0, none⟩), .int .i64 q] w1 fun e w' => ∃ a cap, e = .returned (.slice a R.length cap) ∧ Own w' base (.slice a R.length cap) R ∧ w' = w1) := KR
    have hm0 : (((m + 1 : Nat) : Int) == 0) = false := by simp; omega
    have hmw : IntKind.i64.wrap (((m + 1 : Nat) : Int) - 1) = (m : Int) := by rw [IntKind.wrap_i64]; omega
    have hml : (m : Int) < ((m + 1 : Nat) : Int) := by omega
    clear KR hmem hin hq hri ho h0 hln KK
    go_wp2_with fail
    refine HKR.out.mono ?_
    rintro e w2 ⟨ra, rcp, rfl, ho2, hw2⟩
    subst hw2
    have HO : Aside (Own w2 base (.slice ra R.length rcp) R) := ho2
    clear ho2 HKR
    go_wp2
    go_ret
    obtain ⟨a', cap', he, hrd, hl1, hl2⟩ := HO.out.rd
    cases he
    unfold maxLen at hl2
    exact ⟨ra, rcp, rfl, hrd, by omega, hb⟩
end Go.Proofs.YtcgpgflnihjpiagGreat
namespace Go.Proofs.YtcgpgflnihjpiagGreat
open Go.Shelf
def keysA_ren : Go.Shelf.Ren := ⟨fun | 7 => 147 | 10 => 162 | n => n, fun | 23 => 159 | 26 => 3 | 3 => 64 | 28 => 192 | 0 => 0 | 27 => 191 | 33 => 88 | 4 => 4 | n => n, fun | n => n⟩
theorem keysA : Go.Proofs.SlLaysZI.n7 Tryz.prog keysA_ren := {
  mixed := by kernel_rfl,
  f7 := ⟨Tryz.f147.name, by decide, Tryz.func147.trans (congrArg some (by kernel_rfl))⟩,
  f10 := ⟨Tryz.f162.name, by decide, Tryz.func162.trans (congrArg some (by kernel_rfl))⟩,
  t0 := Tryz.underlying0,
  a0 := Tryz.isAgg0,
  z0 := Tryz.sizeOf0,
  v0 := Tryz.zeroValue0,
  t4 := Tryz.underlying4,
  a4 := Tryz.isAgg4,
  z4 := Tryz.sizeOf4,
  v4 := Tryz.zeroValue4,
  t23 := Tryz.underlying159,
  a23 := Tryz.isAgg159,
  z23 := Tryz.sizeOf159,
  v23 := Tryz.zeroValue159,
  t26 := Tryz.underlying3,
  a26 := Tryz.isAgg3,
  z26 := Tryz.sizeOf3,
  v26 := Tryz.zeroValue3,
  t27 := Tryz.underlying191,
  a27 := Tryz.isAgg191,
  z27 := Tryz.sizeOf191,
  v27 := Tryz.zeroValue191,
  t28 := Tryz.underlying192,
  a28 := Tryz.isAgg192,
  z28 := Tryz.sizeOf192,
  v28 := Tryz.zeroValue192,
  t33 := Tryz.underlying88,
  a33 := Tryz.isAgg88,
  z33 := Tryz.sizeOf88,
  v33 := Tryz.zeroValue88 }
def sortedA_ren : Go.Shelf.Ren := ⟨fun | 6 => 146 | 8 => 160 | 9 => 161 | 11 => 167 | 13 => 117 | 12 => 168 | 23 => 142 | 24 => 143 | 14 => 169 | 15 => 170 | 16 => 171 | 17 => 172 | 18 => 173 | 19 => 174 | 20 => 175 | 21 => 176 | 22 => 177 | 25 => 178 | 26 => 155 | 27 => 156 | 28 => 179 | 29 => 180 | 30 => 181 | 31 => 182 | n => n, fun | 26 => 3 | 28 => 192 | 24 => 24 | 0 => 0 | 3 => 3 | 37 => 156 | 48 => 186 | 50 => 188 | 4 => 4 | 40 => 179 | 39 => 178 | 45 => 183 | 5 => 5 | 9 => 9 | 51 => 199 | 55 => 203 | 57 => 208 | 58 => 209 | 33 => 88 | n => n, fun | n => n⟩
theorem sortedA : Go.Proofs.SlLaysZI.n6 Tryz.prog sortedA_ren := {
  mixed := by kernel_rfl,
  f6 := ⟨Tryz.f146.name, by decide, Tryz.func146.trans (congrArg some (by kernel_rfl))⟩,
  f8 := ⟨Tryz.f160.name, by decide, Tryz.func160.trans (congrArg some (by kernel_rfl))⟩,
  f11 := ⟨Tryz.f167.name, by decide, Tryz.func167.trans (congrArg some (by kernel_rfl))⟩,
  t0 := Tryz.underlying0,
  a0 := Tryz.isAgg0,
  z0 := Tryz.sizeOf0,
  v0 := Tryz.zeroValue0,
  t24 := Tryz.underlying24,
  a24 := Tryz.isAgg24,
  z24 := Tryz.sizeOf24,
  v24 := Tryz.zeroValue24,
  t26 := Tryz.underlying3,
  a26 := Tryz.isAgg3,
  z26 := Tryz.sizeOf3,
  v26 := Tryz.zeroValue3,
  t28 := Tryz.underlying192,
  a28 := Tryz.isAgg192,
  z28 := Tryz.sizeOf192,
  v28 := Tryz.zeroValue192,
  i26 := by kernel_rfl }
def sortA_ren : Go.Shelf.Ren := ⟨fun | 5 => 161 | 8 => 117 | 7 => 168 | 19 => 142 | 20 => 143 | 10 => 169 | 11 => 170 | 12 => 171 | 13 => 172 | 14 => 173 | 15 => 174 | 16 => 175 | 17 => 176 | 18 => 177 | 30 => 178 | 31 => 155 | 32 => 156 | 33 => 179 | 34 => 180 | 35 => 181 | 40 => 182 | n => n, fun | 23 => 24 | 25 => 3 | 3 => 3 | 32 => 156 | 22 => 24 | 0 => 0 | 44 => 186 | 46 => 188 | 4 => 4 | 36 => 179 | 35 => 178 | 41 => 183 | 5 => 5 | 9 => 9 | 53 => 199 | 57 => 203 | 63 => 208 | 64 => 209 | n => n, fun | n => n⟩
theorem sortA : Go.Proofs.SlLaysM.n5 Tryz.prog sortA_ren := {
  mixed := by kernel_rfl,
  f5 := ⟨Tryz.f161.name, by decide, Tryz.func161.trans (congrArg some (by kernel_rfl))⟩,
  f7 := ⟨Tryz.f168.name, by decide, Tryz.func168.trans (congrArg some (by kernel_rfl))⟩,
  f8 := Tryz.func117.trans (congrArg some (by kernel_rfl)),
  f10 := ⟨Tryz.f169.name, by decide, Tryz.func169.trans (congrArg some (by kernel_rfl))⟩,
  f11 := ⟨Tryz.f170.name, by decide, Tryz.func170.trans (congrArg some (by kernel_rfl))⟩,
  f12 := ⟨Tryz.f171.name, by decide, Tryz.func171.trans (congrArg some (by kernel_rfl))⟩,
  f13 := ⟨Tryz.f172.name, by decide, Tryz.func172.trans (congrArg some (by kernel_rfl))⟩,
  f14 := ⟨Tryz.f173.name, by decide, Tryz.func173.trans (congrArg some (by kernel_rfl))⟩,
  f15 := ⟨Tryz.f174.name, by decide, Tryz.func174.trans (congrArg some (by kernel_rfl))⟩,
  f16 := ⟨Tryz.f175.name, by decide, Tryz.func175.trans (congrArg some (by kernel_rfl))⟩,
  f17 := ⟨Tryz.f176.name, by decide, Tryz.func176.trans (congrArg some (by kernel_rfl))⟩,
  f18 := ⟨Tryz.f177.name, by decide, Tryz.func177.trans (congrArg some (by kernel_rfl))⟩,
  f19 := Tryz.func142.trans (congrArg some (by kernel_rfl)),
  f20 := Tryz.func143.trans (congrArg some (by kernel_rfl)),
  f30 := ⟨Tryz.f178.name, by decide, Tryz.func178.trans (congrArg some (by kernel_rfl))⟩,
  f31 := Tryz.func155.trans (congrArg some (by kernel_rfl)),
  f32 := Tryz.func156.trans (congrArg some (by kernel_rfl)),
  f33 := ⟨Tryz.f179.name, by decide, Tryz.func179.trans (congrArg some (by kernel_rfl))⟩,
  f34 := ⟨Tryz.f180.name, by decide, Tryz.func180.trans (congrArg some (by kernel_rfl))⟩,
  f35 := ⟨Tryz.f181.name, by decide, Tryz.func181.trans (congrArg some (by kernel_rfl))⟩,
  f40 := ⟨Tryz.f182.name, by decide, Tryz.func182.trans (congrArg some (by kernel_rfl))⟩,
  t0 := Tryz.underlying0,
  a0 := Tryz.isAgg0,
  z0 := Tryz.sizeOf0,
  v0 := Tryz.zeroValue0,
  t3 := Tryz.underlying3,
  a3 := Tryz.isAgg3,
  z3 := Tryz.sizeOf3,
  v3 := Tryz.zeroValue3,
  t4 := Tryz.underlying4,
  a4 := Tryz.isAgg4,
  z4 := Tryz.sizeOf4,
  v4 := Tryz.zeroValue4,
  t5 := Tryz.underlying5,
  a5 := Tryz.isAgg5,
  z5 := Tryz.sizeOf5,
  v5 := Tryz.zeroValue5,
  t9 := Tryz.underlying9,
  a9 := Tryz.isAgg9,
  z9 := Tryz.sizeOf9,
  v9 := Tryz.zeroValue9,
  t22 := Tryz.underlying24,
  a22 := Tryz.isAgg24,
  z22 := Tryz.sizeOf24,
  v22 := Tryz.zeroValue24,
  t23 := Tryz.underlying24,
  a23 := Tryz.isAgg24,
  z23 := Tryz.sizeOf24,
  v23 := Tryz.zeroValue24,
  t25 := Tryz.underlying3,
  a25 := Tryz.isAgg3,
  z25 := Tryz.sizeOf3,
  v25 := Tryz.zeroValue3,
  t32 := Tryz.underlying156,
  a32 := Tryz.isAgg156,
  z32 := Tryz.sizeOf156,
  v32 := Tryz.zeroValue156,
  t35 := Tryz.underlying178,
  a35 := Tryz.isAgg178,
  z35 := Tryz.sizeOf178,
  v35 := Tryz.zeroValue178,
  t36 := Tryz.underlying179,
  a36 := Tryz.isAgg179,
  z36 := Tryz.sizeOf179,
  v36 := Tryz.zeroValue179,
  t41 := Tryz.underlying183,
  a41 := Tryz.isAgg183,
  z41 := Tryz.sizeOf183,
  v41 := Tryz.zeroValue183,
  t44 := Tryz.underlying186,
  a44 := Tryz.isAgg186,
  z44 := Tryz.sizeOf186,
  v44 := Tryz.zeroValue186,
  t46 := Tryz.underlying188,
  a46 := Tryz.isAgg188,
  z46 := Tryz.sizeOf188,
  v46 := Tryz.zeroValue188,
  t53 := Tryz.underlying199,
  a53 := Tryz.isAgg199,
  z53 := Tryz.sizeOf199,
  v53 := Tryz.zeroValue199,
  t57 := Tryz.underlying203,
  a57 := Tryz.isAgg203,
  z57 := Tryz.sizeOf203,
  v57 := Tryz.zeroValue203,
  t63 := Tryz.underlying208,
  a63 := Tryz.isAgg208,
  z63 := Tryz.sizeOf208,
  v63 := Tryz.zeroValue208,
  t64 := Tryz.underlying209,
  a64 := Tryz.isAgg209,
  z64 := Tryz.sizeOf209,
  v64 := Tryz.zeroValue209 }
end Go.Proofs.YtcgpgflnihjpiagGreat
namespace Go.Proofs.YtcgpgflnihjpiagGreat
open Go.RowKit Go.Maps Go.Sort Go.Shelf
theorem sortsA (m : Nat) : AnyZI.SortsIn Tryz.prog sortedA_ren Fence.wide m :=
  ⟨fun blk off cap ss W hH hblk hsz => callsIn_wide.2 (AnyM.slices_Sort_int sortA blk off cap ss W hH hblk hsz),
   fun p cap W => callsIn_wide.2 (AnyM.slices_Sort_int_none sortA p cap W)⟩
theorem keys_call (mb : Option Nat) (W : World) : Calls Tryz.prog 147 #[.map mb] W fun e w' => e = .returned (.func (.func 162) #[] #[.pointer (some ⟨W.heap.size, 0, none⟩)]) ∧ w' = W.alloc (.cells #[.map mb] 159) :=
  (callsIn_wide (n := 5)).1 (AnyZI.keys_in keysA Fence.wide 5 trivial rfl mb W)
set_option maxHeartbeats 1000000 in
theorem sorted_call (b n : Nat) (f : Int → Option Value) (w : World) (h : Mp w b n f) (hn : n ≤ 1000) (m : Nat) (hd : ∀ x, (f x).isSome = true → 0 ≤ x ∧ x < (m : Int)) :
    Calls Tryz.prog 146 #[.func (.func 162) #[] #[.pointer (some ⟨w.heap.size, 0, none⟩)]] (w.alloc (.cells #[.map (some b)] 159)) fun e w' =>
      ∃ v, e = .returned v ∧ OwnI w' w.heap.size v (M.sel (fun k => (f (k : Int)).isSome) m) ∧ Below w.heap.size w w' := by
  obtain ⟨D, hown, hh, _⟩ := h
  have hbl := hown.lt
  have hsz := size_keys hown
  have hseq : SeqGives Fence.wide 2 Tryz.prog 162 #[.pointer (some ⟨w.heap.size, 0, none⟩)] encZ (fun ss => ss.Perm (intKeys D)) (Maps.size D) (w.alloc (.cells #[.map (some b)] 159)) :=
    AnyZI.keys_gives (ρ := keysA_ren) { keysA with } Fence.wide _ trivial rfl (by omega) w.heap.size b n D _ (by simp) (by simp) (hown.alloc _)
  have cS := AnyZI.sorted_in sortedA Fence.wide 5 trivial trivial trivial trivial rfl (by omega) (sortsA _) (enters_of Tryz.func161 (by kernel_rfl) rfl) 162 #[.pointer (some ⟨w.heap.size, 0, none⟩)] trivial (enters_of Tryz.func162 (by kernel_rfl) rfl) _ _ (by unfold maxLen; omega) (by omega) _ hseq
  change CallsIn _ _ Tryz.prog 146 _ _ _ at cS
  refine (callsIn_wide.1 cS).mono ?_
  rintro e w' ⟨v, ss, rfl, hS, hrow, hnil, hb⟩
  have hb2 : Below w.heap.size w w' := ((Below.refl _ w).alloc (Nat.le_refl _) _).trans (hb.mono (by simp))
  have es := sorted_sel hown hh m hd ss hS
  have el : ss.length = (M.sel (fun k => (f (k : Int)).isSome) m).length := by rw [← es]; simp
  refine ⟨v, rfl, ?_, hb2⟩
  have hr := ownsRow_base_a hrow (base' := w.heap.size) (by simp)
  rw [es, el] at hr
  exact hr
end Go.Proofs.YtcgpgflnihjpiagGreat
namespace Go.Proofs.YtcgpgflnihjpiagGreat
open Go.RowKit Go.Maps
def cfun (b m : List (Int × Int)) (n : Nat) : Int → Option Value := fun x => if 0 ≤ x ∧ x < (n : Int) ∧ M.find x b ≠ M.find x m then some (cval (x, M.find x b, M.find x m)) else none
theorem cfun_zero (b m : List (Int × Int)) : cfun b m 0 = fun _ => none := by
  funext x; unfold cfun; rw [if_neg (by omega)]
theorem cfun_more (b m : List (Int × Int)) (n : Nat) (h : M.find (n : Int) b ≠ M.find (n : Int) m) : upd (cfun b m n) (n : Int) (cval ((n : Int), M.find n b, M.find n m)) = cfun b m (n + 1) := by
  funext x
  unfold upd cfun
  by_cases e : x = (n : Int)
  · subst e; rw [if_pos rfl, if_pos ⟨by omega, by omega, h⟩]
  · rw [if_neg e]
    by_cases h2 : 0 ≤ x ∧ x < (n : Int) ∧ M.find x b ≠ M.find x m
    · rw [if_pos h2, if_pos ⟨h2.1, by omega, h2.2.2⟩]
    · rw [if_neg h2, if_neg (fun h3 => h2 ⟨h3.1, by omega, h3.2.2⟩)]
theorem cfun_same (b m : List (Int × Int)) (n : Nat) (h : M.find (n : Int) b = M.find (n : Int) m) : cfun b m n = cfun b m (n + 1) := by
  funext x
  unfold cfun
  by_cases h2 : 0 ≤ x ∧ x < (n : Int) ∧ M.find x b ≠ M.find x m
  · rw [if_pos h2, if_pos ⟨h2.1, by omega, h2.2.2⟩]
  · rw [if_neg h2, if_neg (fun h3 => h2 ⟨h3.1, by
      have : x ≠ (n : Int) := fun e => h3.2.2 (by rw [e]; exact h)
      omega, h3.2.2⟩)]
theorem cfun_dom (b m : List (Int × Int)) (n : Nat) (x : Int) (h : (cfun b m n x).isSome = true) : 0 ≤ x ∧ x < (n : Int) := by
  unfold cfun at h
  split at h
  · rename_i h2; exact ⟨h2.1, h2.2.1⟩
  · simp at h
theorem cfun_at (b m : List (Int × Int)) (n k : Nat) (hk : k < n) : cfun b m n (k : Int) = if M.find (k : Int) b ≠ M.find (k : Int) m then some (cval ((k : Int), M.find k b, M.find k m)) else none := by
  unfold cfun
  by_cases h : M.find (k : Int) b ≠ M.find (k : Int) m
  · rw [if_pos h, if_pos ⟨by omega, by omega, h⟩]
  · rw [if_neg h, if_neg (fun h2 => h h2.2.2)]
theorem changes_bad1 (a a2 : Option Addr) (n n2 cap cap2 : Nat) (b : List (Int × Int)) (w : World) (h : Rd w a n b) (hm : n ≤ 9223372036854775807) (hz : M.chk b ≠ 0) :
    Calls Tryz.prog 120 #[.slice a n cap, .slice a2 n2 cap2] w fun e w' => e = .returned (.tuple #[.map none, .int .i64 (M.chk b)]) ∧ Below w.heap.size w w' := by
  have hb0 : Below w.heap.size w (w.alloc (.map #[] 0)) := (Below.refl _ _).alloc (Nat.le_refl _) _
  have H := find_any a n cap b 0 (w.alloc (.map #[] 0)) (h.below hb0 (Nat.le_refl _)) hm
  rw [M.findV_no (by rw [M.asked_bad hz]; exact hz), M.asked_bad hz] at H
  obtain ⟨c, hc⟩ : ∃ c, c = M.chk b := ⟨_, rfl⟩
  rw [← hc] at H hz ⊢
  have hne : (c != 0) = true := by simp [hz]
  have HH : Hid (Calls Tryz.prog 132 #[.slice a n cap, .int .i64 0] (w.alloc (.map #[] 0)) fun e w' => e = .returned (.tuple #[.int .i64 0, .int .i64 c]) ∧ Below (w.alloc (.map #[] 0)).heap.size (w.alloc (.map #[] 0)) w') := H
  have hmm := @run_makeMap Tryz.prog
  clear H hz hc h
  go_enter Tryz.func120, Tryz.ntmps120
  go_wp2
  refine wp_loop_rounds 1 ?_
  rw [rounds_succ]
  go_wp2_with fail
  refine HH.out.mono ?_
  rintro e w1 ⟨rfl, hb1⟩
  go_wp2
  go_ret2
  exact ⟨rfl, hb0.trans (hb1.mono hb0.size)⟩
theorem changes_bad2 (a a2 : Option Addr) (n n2 cap cap2 : Nat) (b m : List (Int × Int)) (w : World) (h : Rd w a n b) (h2 : Rd w a2 n2 m) (hn : n ≤ 9223372036854775807) (hn2 : n2 ≤ 9223372036854775807) (hz : M.chk b = 0) (hz2 : M.chk m ≠ 0) :
    Calls Tryz.prog 120 #[.slice a n cap, .slice a2 n2 cap2] w fun e w' => e = .returned (.tuple #[.map none, .int .i64 (M.chk m)]) ∧ Below w.heap.size w w' := by
  have hb0 : Below w.heap.size w (w.alloc (.map #[] 0)) := (Below.refl _ _).alloc (Nat.le_refl _) _
  have H := find_any a n cap b 0 (w.alloc (.map #[] 0)) (h.below hb0 (Nat.le_refl _)) hn
  rw [M.asked_ok hz (by omega) (by omega)] at H
  obtain ⟨v, hv⟩ : ∃ v, v = M.findV b 0 := ⟨_, rfl⟩
  rw [← hv] at H
  have HH : Hid (Calls Tryz.prog 132 #[.slice a n cap, .int .i64 0] (w.alloc (.map #[] 0)) fun e w' => e = .returned (.tuple #[.int .i64 v, .int .i64 0]) ∧ Below (w.alloc (.map #[] 0)).heap.size (w.alloc (.map #[] 0)) w') := H
  have H2 : Hid (Rd w a2 n2 m) := h2
  obtain ⟨c, hc⟩ : ∃ c, c = M.chk m := ⟨_, rfl⟩
  have HC : Hid (c = M.chk m) := hc
  rw [← hc] at hz2 ⊢
  have hne : (c != 0) = true := by simp [hz2]
  have HNZ : Hid (c ≠ 0) := hz2
  have hmm := @run_makeMap Tryz.prog
  clear H hz hz2 h h2 hv hc
  go_enter Tryz.func120, Tryz.ntmps120
  go_wp2
  refine wp_loop_rounds 1 ?_
  rw [rounds_succ]
  go_wp2_with fail
  refine HH.out.mono ?_
  rintro e w1 ⟨rfl, hb1⟩
  have hb2 : Below w.heap.size w w1 := hb0.trans (hb1.mono hb0.size)
  have K := find_any a2 n2 cap2 m 0 w1 (H2.out.below hb2 (Nat.le_refl _)) hn2
  rw [M.findV_no (by rw [M.asked_bad (by rw [← HC.out]; exact HNZ.out), ← HC.out]; exact HNZ.out), M.asked_bad (by rw [← HC.out]; exact HNZ.out), ← HC.out] at K
  have KK : Hid (Calls Tryz.prog 132 #[.slice a2 n2 cap2, .int .i64 0] w1 fun e w' => e = .returned (.tuple #[.int .i64 0, .int .i64 c]) ∧ Below w1.heap.size w1 w') := K
  clear K hb1
  go_wp2_with fail
  refine KK.out.mono ?_
  rintro e w2 ⟨rfl, hb3⟩
  go_wp2
  go_ret2
  exact ⟨rfl, hb2.trans (hb3.mono hb2.size)⟩
set_option maxHeartbeats 4000000 in
theorem changes_good (a a2 : Option Addr) (n n2 cap cap2 : Nat) (b m : List (Int × Int)) (w : World) (h : Rd w a n b) (h2 : Rd w a2 n2 m) (hz : M.chk b = 0) (hz2 : M.chk m = 0) :
    Calls Tryz.prog 120 #[.slice a n cap, .slice a2 n2 cap2] w fun e w' => ∃ B, e = .returned (.tuple #[.map (some B), .int .i64 0]) ∧ Mp w' B 100 (cfun b m 100) ∧ w.heap.size ≤ B ∧ Below w.heap.size w w' := by
  have hn : n ≤ 40 := by rw [← h.1]; exact ((M.chk_zero b).1 hz).1
  have hn2 : n2 ≤ 40 := by rw [← h2.1]; exact ((M.chk_zero m).1 hz2).1
  have HB : Aside (Rd w a n b) := h
  have HM : Aside (Rd w a2 n2 m) := h2
  have F1 : Aside (∀ W (k : Nat), Below w.heap.size w W → k < 100 → Calls Tryz.prog 132 #[.slice a n cap, .int .i64 (k : Int)] W fun e w' => e = .returned (.tuple #[.int .i64 (M.find k b), .int .i64 0]) ∧ Below W.heap.size W w') := fun W k hW hk => by
    have H := find_any a n cap b k W (h.below hW (Nat.le_refl _)) (by omega)
    have e := M.asked_ok hz (key := (k : Int)) (by omega) (by omega)
    rw [M.findV_ok e, e] at H
    exact H
  have F2 : Aside (∀ W (k : Nat), Below w.heap.size w W → k < 100 → Calls Tryz.prog 132 #[.slice a2 n2 cap2, .int .i64 (k : Int)] W fun e w' => e = .returned (.tuple #[.int .i64 (M.find k m), .int .i64 0]) ∧ Below W.heap.size W w') := fun W k hW hk => by
    have H := find_any a2 n2 cap2 m k W (h2.below hW (Nat.le_refl _)) (by omega)
    have e := M.asked_ok hz2 (key := (k : Int)) (by omega) (by omega)
    rw [M.findV_ok e, e] at H
    exact H
  have hmm := @run_makeMap Tryz.prog
  have HM0 : Aside (Mp (w.alloc (.map #[] 0)) w.heap.size 0 (cfun b m 0)) := by unfold Aside; rw [cfun_zero]; exact Mp.made w
  clear h h2 hz hz2
  go_enter Tryz.func120, Tryz.ntmps120
  go_wp2
  go_loopg [12] 100 (fun g i wr => ∃ (k c : Nat), k + g = 100 ∧ i = .int .i64 k ∧ c ≤ k ∧ Aside (Mp wr w.heap.size c (cfun b m k)) ∧ Below w.heap.size w wr)
  case atStart => exact ⟨0, 0, by omega, rfl, Nat.le_refl _, HM0, (Below.refl _ _).alloc (Nat.le_refl _) _⟩
  case round =>
    obtain ⟨k, c, hk, rfl, hck, HMp, hbel⟩ := hrel
    by_cases hlt : k < 100
    · have K1 := F1.out wr k hbel hlt
      obtain ⟨x, hx⟩ : ∃ x, x = M.find (k : Int) b := ⟨_, rfl⟩
      obtain ⟨y, hy⟩ : ∃ y, y = M.find (k : Int) m := ⟨_, rfl⟩
      rw [← hx] at K1
      have KK1 : Hid (Calls Tryz.prog 132 #[.slice a n cap, .int .i64 (k : Int)] wr fun e w' => e = .returned (.tuple #[.int .i64 x, .int .i64 0]) ∧ Below wr.heap.size wr w') := K1
      have HX : Aside (x = M.find (k : Int) b) := hx
      have HY : Aside (y = M.find (k : Int) m) := hy
      have hBlt := HMp.out.lt
      clear K1 hx hy
      have hki : (k : Int) < 100 := by omega
      go_wp2_with fail
      refine KK1.out.mono ?_
      rintro e w1 ⟨rfl, hb1⟩
      have hb2 : Below w.heap.size w w1 := hbel.trans (hb1.mono hbel.size)
      have HMp1 : Aside (Mp w1 w.heap.size c (cfun b m k)) := HMp.out.below hb1 hBlt
      have K2 := F2.out w1 k hb2 hlt
      rw [← HY.out] at K2
      have KK2 : Hid (Calls Tryz.prog 132 #[.slice a2 n2 cap2, .int .i64 (k : Int)] w1 fun e w' => e = .returned (.tuple #[.int .i64 y, .int .i64 0]) ∧ Below w1.heap.size w1 w') := K2
      have hBlt1 := HMp1.out.lt
      clear K2 hb1 KK1 HMp hbel
      go_wp2_with fail
      refine KK2.out.mono ?_
      rintro e w2 ⟨rfl, hb3⟩
      have hb4 : Below w.heap.size w w2 := hb2.trans (hb3.mono hb2.size)
      have HMp2 : Aside (Mp w2 w.heap.size c (cfun b m k)) := HMp1.out.below hb3 hBlt1
      clear hb3 KK2 HMp1 hb2
      by_cases hxy : x = y
      · have hb : (x != y) = false := by simp [hxy]
        have HMp3 : Aside (Mp w2 w.heap.size c (cfun b m (k + 1))) := by unfold Aside; rw [← cfun_same b m k (by rw [← HX.out, ← HY.out]; exact hxy)]; exact HMp2.out
        clear hxy
        go_wp2
        go_roundg (gk - 1)
        case measure => omega
        case rel => exact ⟨k + 1, c, by omega, by go_num, by omega, HMp3, hb4⟩
      · have hb : (x != y) = true := by simp [hxy]
        have HE : Aside (upd (cfun b m k) (k : Int) (cval ((k : Int), x, y)) = cfun b m (k + 1)) := by unfold Aside; rw [HX.out, HY.out]; exact cfun_more b m k (by rw [← HX.out, ← HY.out]; exact hxy)
        clear hxy
        go_wp2_with (at_mapUpdate; refine wp_mp_set rfl _ _ _ 159 64 rfl Tryz.underlying159 w.heap.size c (cfun b m k) rfl HMp2.out (by omega) (k : Int) (cval ((k : Int), x, y)) rfl rfl (by omega) (by omega) ?_)
        intro w3 hmp hgr
        have HMp3 : Aside (Mp w3 w.heap.size (c + 1) (cfun b m (k + 1))) := by unfold Aside; rw [← HE.out]; exact hmp
        have hb5 : Below w.heap.size w w3 := hb4.grown hgr hb4.size (fun k hk => by cases hk; exact Nat.le_refl _)
        clear hmp hgr
        go_wp2
        go_roundg (gk - 1)
        case measure => omega
        case rel => exact ⟨k + 1, c + 1, by omega, by go_num, by omega, HMp3, hb5⟩
    · obtain rfl : k = 100 := by omega
      have HMp3 : Aside (Mp wr w.heap.size 100 (cfun b m 100)) := HMp.out.mono hck
      go_wp2
      go_ret2
      exact ⟨w.heap.size, rfl, HMp3.out, Nat.le_refl _, hbel⟩
end Go.Proofs.YtcgpgflnihjpiagGreat
namespace Go.Proofs.YtcgpgflnihjpiagGreat
namespace M
theorem filterMap_take (ks : List Int) (f : Int → Option Chg) (i : Nat) (h : i < ks.length) : (ks.take (i + 1)).filterMap f = (ks.take i).filterMap f ++ (f (ks.getD i 0)).toList := by
  rw [List.take_succ_eq_append_getElem h, List.filterMap_append]
  have e : ks.getD i 0 = ks[i] := by simp [List.getD, h]
  rw [e]
  cases hf : f ks[i] <;> simp [hf]
theorem ifilter_take (ks : List Int) (p : Int → Bool) (i : Nat) (h : i < ks.length) : (ks.take (i + 1)).filter p = (ks.take i).filter p ++ if p (ks.getD i 0) = true then [ks.getD i 0] else [] := by
  rw [List.take_succ_eq_append_getElem h, List.filter_append]
  have e : ks.getD i 0 = ks[i] := by simp [List.getD, h]
  rw [e]
  cases hp : p ks[i] <;> simp [hp]
theorem filterMap_len (ks : List Int) (f : Int → Option Chg) : (ks.filterMap f).length ≤ ks.length := List.length_filterMap_le f ks
theorem ckeys_at (b m : List (Int × Int)) (i : Nat) (h : i < (ckeys b m).length) : ∃ k : Nat, (ckeys b m).getD i 0 = (k : Int) ∧ k < 100 ∧ find (k : Int) b ≠ find (k : Int) m := by
  have hm : (ckeys b m).getD i 0 ∈ ckeys b m := by simp [List.getD, h]
  obtain ⟨k, h1, h2, h3⟩ := (mem_sel _ _ _).1 hm
  exact ⟨k, h3, h1, by simpa using h2⟩
theorem ckeys_len (b m : List (Int × Int)) : (ckeys b m).length ≤ 100 := sel_len _ 100
def mclashK (b l m : List (Int × Int)) (x : Int) : Bool := mclash (find x b) (find x l) (find x m)
theorem mkeys_eq (b l m : List (Int × Int)) : (ckeys b m).filter (mclashK b l m) = mkeys b l m := ckeys_filter b l m 100
end M
open Go.RowKit Go.Maps
theorem zeroChange (w : World) : (zeroValue 64).run Tryz.prog w = .ok (.agg #[.int .i64 0, .int .i64 0, .int .i64 0]) w := by kernel_rfl
theorem ckeys_sel (b m : List (Int × Int)) : M.sel (fun k => (cfun b m 100 (k : Int)).isSome) 100 = M.ckeys b m := by
  refine M.sel_congr _ _ _ fun k hk => ?_
  rw [cfun_at b m 100 k hk]
  by_cases h : M.find (k : Int) b ≠ M.find (k : Int) m
  · rw [if_pos h, decide_eq_true h]; rfl
  · rw [if_neg h, decide_eq_false h]; rfl
set_option maxRecDepth 100000 in
set_option maxHeartbeats 8000000 in
theorem part_any (P Q : Nat) (b l m : List (Int × Int)) (w : World) (hP : Mp w P 100 (cfun b m 100)) (hQ : Mp w Q 100 (cfun b l 100)) :
    Calls Tryz.prog 121 #[.map (some P), .map (some Q)] w fun e w' => ∃ v u, e = .returned (.tuple #[v, u]) ∧ OwnC w' w.heap.size v (M.alone b l m) ∧ OwnI w' w.heap.size u (M.mkeys b l m) ∧ Below w.heap.size w w' := by
  have HP : Aside (Mp w P 100 (cfun b m 100)) := hP
  have HQ : Aside (Mp w Q 100 (cfun b l 100)) := hQ
  have hPl := hP.lt
  have hQl := hQ.lt
  have HS := sorted_call P 100 (cfun b m 100) w hP (by omega) 100 (cfun_dom b m 100)
  rw [ckeys_sel] at HS
  have HSS : Hid (Calls Tryz.prog 146 #[.func (.func 162) #[] #[.pointer (some ⟨w.heap.size, 0, none⟩)]] (w.alloc (.cells #[.map (some P)] 159)) fun e w' => ∃ v, e = .returned v ∧ OwnI w' w.heap.size v (M.ckeys b m) ∧ Below w.heap.size w w') := HS
  clear HS hP hQ
  go_enter Tryz.func121, Tryz.ntmps121
  go_wp2_with fail
  refine (keys_call (some P) w).mono ?_
  rintro e w1 ⟨rfl, hw1⟩
  subst hw1
  go_wp2_with fail
  refine HSS.out.mono ?_
  rintro e w2 ⟨kv, rfl, hko, hb2⟩
  obtain ⟨ks, hks⟩ : ∃ ks, ks = M.ckeys b m := ⟨_, rfl⟩
  rw [← hks] at hko
  obtain ⟨ka, kc, rfl, hri, _, _⟩ := hko.ri
  obtain ⟨ln, hln⟩ : ∃ ln, ln = ks.length := ⟨_, rfl⟩
  rw [← hln] at hri ⊢
  have hl100 : ln ≤ 100 := by rw [hln, hks]; exact M.ckeys_len b m
  have HKS : Aside (ks = M.ckeys b m) := hks
  have HLN : Aside (ln = ks.length) := hln
  have HRi : Aside (Ri w2 ka ln ks) := hri
  have HP2 : Aside (Mp w2 P 100 (cfun b m 100)) := HP.out.below hb2 hPl
  have HQ2 : Aside (Mp w2 Q 100 (cfun b l 100)) := HQ.out.below hb2 hQl
  have hs2 := hb2.size
  have hP2 : P < w2.heap.size := HP2.out.lt
  have hQ2 : Q < w2.heap.size := HQ2.out.lt
  clear HSS hko hri hks hln HP HQ hPl hQl
  go_wp2
  go_loopg [6, 7, 16] ln (fun g v u ix wr => ∃ i : Nat, i + g = ln ∧ ix = .int .i64 i ∧ Aside (OwnC wr w2.heap.size v ((ks.take i).filterMap (M.aloneC b l m))) ∧ Aside (OwnI wr w2.heap.size u ((ks.take i).filter (M.mclashK b l m))) ∧ Below w2.heap.size w2 wr)
  case atStart => exact ⟨0, by omega, rfl, OwnC.nil _ _, OwnI.nil _ _, Below.refl _ _⟩
  case round =>
    obtain ⟨i, hig, rfl, HV, HU, hbel⟩ := hrel
    have hsz := hbel.size
    by_cases hlt : i < ln
    · have hii : (i : Int) < (ln : Int) := by omega
      obtain ⟨kb, ko, rfl, hkB, hkc⟩ : ∃ kb ko, ka = some ⟨kb, ko, none⟩ ∧ kb < w2.heap.size ∧ ∀ i, i < ln → w2.cell? ⟨kb, ko + i, none⟩ = some (.int .i64 (ks.getD i 0)) := by
        rcases HRi.out.cases with ⟨h0, _⟩ | ⟨kb, ko, e, _, _, hkB, hkc⟩
        · omega
        · exact ⟨kb, ko, e, hkB, hkc⟩
      obtain ⟨k, hk, hk100, hne⟩ := M.ckeys_at b m i (by rw [← HKS.out, ← HLN.out]; exact hlt)
      have ck : wr.cell? ⟨kb, ko + i, none⟩ = some (.int .i64 (k : Int)) := by rw [hbel.cell (p := ⟨kb, ko + i, none⟩) hkB, hkc i hlt, HKS.out, hk]
      obtain ⟨fb, hfb⟩ : ∃ x, x = M.find (k : Int) b := ⟨_, rfl⟩
      obtain ⟨fl, hfl⟩ : ∃ x, x = M.find (k : Int) l := ⟨_, rfl⟩
      obtain ⟨fm, hfm⟩ : ∃ x, x = M.find (k : Int) m := ⟨_, rfl⟩
      have FM := M.filterMap_take ks (M.aloneC b l m) i (by rw [← HLN.out]; exact hlt)
      have FI := M.ifilter_take ks (M.mclashK b l m) i (by rw [← HLN.out]; exact hlt)
      have hgk : ks.getD i 0 = (k : Int) := by rw [HKS.out]; exact hk
      rw [hgk] at FM FI
      have ea : M.aloneC b l m (k : Int) = if fb = fl then some ((k : Int), fb, fm) else none := by unfold M.aloneC; rw [← hfb, ← hfl, ← hfm]
      have ec : M.mclashK b l m (k : Int) = M.mclash fb fl fm := by unfold M.mclashK; rw [← hfb, ← hfl, ← hfm]
      rw [ea] at FM
      rw [ec] at FI
      have hneb : fb ≠ fm := by rw [hfb, hfm]; exact hne
      have one1 : (cfun b m 100 (k : Int)).getD (.agg #[.int .i64 0, .int .i64 0, .int .i64 0]) = .agg #[.int .i64 (k : Int), .int .i64 fb, .int .i64 fm] := by rw [cfun_at b m 100 k hk100, if_pos hne, hfb, hfm]; rfl
      have HPr : Aside (∀ W, Below w2.heap.size w2 W → Mp W P 100 (cfun b m 100)) := fun W hW => HP2.out.below hW hP2
      have HQr : Aside (Mp wr Q 100 (cfun b l 100)) := HQ2.out.below hbel hQ2
      have HOne : Aside ((cfun b m 100 (k : Int)).getD (.agg #[.int .i64 0, .int .i64 0, .int .i64 0]) = .agg #[.int .i64 (k : Int), .int .i64 fb, .int .i64 fm]) := one1
      have hlenV : Aside (((ks.take i).filterMap (M.aloneC b l m)).length + 1 ≤ 1000000) := by
        have h1 := M.filterMap_len (ks.take i) (M.aloneC b l m)
        rw [List.length_take] at h1
        unfold Aside; omega
      have hlenU : Aside (((ks.take i).filter (M.mclashK b l m)).length + 1 ≤ 1000000) := by
        have h1 := List.length_filter_le (M.mclashK b l m) (ks.take i)
        rw [List.length_take] at h1
        unfold Aside; omega
      have hk0 : (0 : Int) ≤ (k : Int) := by omega
      have hkz : (k : Int) ≤ 99 := by omega
      by_cases hbl : fb = fl
      · -- the first has left it as it was
        have other : cfun b l 100 (k : Int) = none := by rw [cfun_at b l 100 k hk100, if_neg (by rw [← hfb, ← hfl]; simp [hbl])]
        have HG : Aside ((cfun b l 100 (k : Int)).getD (.agg #[.int .i64 0, .int .i64 0, .int .i64 0]) = .agg #[.int .i64 0, .int .i64 0, .int .i64 0]) := by unfold Aside; rw [other]; rfl
        have HI : Aside ((cfun b l 100 (k : Int)).isSome = false) := by unfold Aside; rw [other]; rfl
        rw [if_pos hbl] at FM
        have hcl : M.mclash fb fl fm = false := by unfold M.mclash; simp [hbl]
        rw [hcl, if_neg (by simp), List.append_nil] at FI
        have HFM : Aside ((ks.take (i + 1)).filterMap (M.aloneC b l m) = (ks.take i).filterMap (M.aloneC b l m) ++ [((k : Int), fb, fm)]) := FM
        have HU' : ∀ W, W.ownsRow w2.heap.size 3 1 u7 ((ks.take i).filter (M.mclashK b l m)).length (((ks.take i).filter (M.mclashK b l m)).map (Value.int .i64)) → Aside (OwnI W w2.heap.size u7 ((ks.take (i + 1)).filter (M.mclashK b l m))) := fun W h => by unfold Aside OwnI; rw [FI]; exact h
        clear FM FI hbl other hcl ea ec hfb hfl hfm hk hne hneb one1 hgk hkc
        obtain ⟨Wa, hWa⟩ : ∃ Wa, Wa = wr.alloc (.cells #[.int .i64 0, .int .i64 0, .int .i64 0] 64) := ⟨_, rfl⟩
        have hba : Below wr.heap.size wr Wa := by rw [hWa]; exact (Below.refl _ _).alloc (Nat.le_refl _) _
        have hbw : Below w2.heap.size w2 Wa := hbel.trans (hba.mono hsz)
        have HPa : Aside (Mp Wa P 100 (cfun b m 100)) := HPr.out Wa hbw
        have HVa : Aside (OwnC Wa w2.heap.size u6 ((ks.take i).filterMap (M.aloneC b l m))) := HV.out.below hba
        have HUa : Aside (OwnI Wa w2.heap.size u7 ((ks.take i).filter (M.mclashK b l m))) := HU.out.below hba
        have HWa : Hid (Wa = wr.alloc (.cells #[.int .i64 0, .int .i64 0, .int .i64 0] 64)) := hWa
        obtain ⟨Wb, hWb⟩ : ∃ Wb, Wb = Wa.alloc (.cells #[.int .i64 (k : Int), .int .i64 fb, .int .i64 fm] 64) := ⟨_, rfl⟩
        have hbb : Below Wa.heap.size Wa Wb := by rw [hWb]; exact (Below.refl _ _).alloc (Nat.le_refl _) _
        have HVb : Aside (OwnC Wb w2.heap.size u6 ((ks.take i).filterMap (M.aloneC b l m))) := HVa.out.below hbb
        have HUb : Aside (OwnI Wb w2.heap.size u7 ((ks.take i).filter (M.mclashK b l m))) := HUa.out.below hbb
        have hbwb : Below w2.heap.size w2 Wb := hbw.trans (hbb.mono hbw.size)
        have HWb : Hid (Wb = Wa.alloc (.cells #[.int .i64 (k : Int), .int .i64 fb, .int .i64 fm] 64)) := hWb
        have HCb : Hid (∀ j, j < 1 → Wb.cell? ⟨Wa.heap.size, 0 + j * 3, none⟩ = some (.int .i64 (([((k : Int), fb, fm)] : List M.Chg).getD j (0, 0, 0)).1) ∧ Wb.cell? ⟨Wa.heap.size, 0 + j * 3 + 1, none⟩ = some (.int .i64 (([((k : Int), fb, fm)] : List M.Chg).getD j (0, 0, 0)).2.1) ∧ Wb.cell? ⟨Wa.heap.size, 0 + j * 3 + 2, none⟩ = some (.int .i64 (([((k : Int), fb, fm)] : List M.Chg).getD j (0, 0, 0)).2.2)) := by rw [hWb]; exact rc_one Wa _ _ _
        clear hWa hWb hba hbb
        go_wp2_with (first
          | (at_lookup; refine wp_mp_ok rfl _ _ 159 64 rfl Tryz.underlying159 _ (zeroChange _) Q 100 (cfun b l 100) rfl HQr.out (k : Int) _ _ HG.out HI.out rfl (by omega) (by omega) ?_)
          | (at_lookup; rw [← HWa.out]; refine wp_mp_get rfl _ _ 159 64 rfl Tryz.underlying159 _ (zeroChange _) P 100 (cfun b m 100) rfl HPa.out (k : Int) _ HOne.out rfl (by omega) (by omega) ?_)
          | (at_builtin; rw [← HWb.out]; refine append_rc rfl _ _ rfl w2.heap.size _ ((ks.take i).filterMap (M.aloneC b l m)) rfl HVb.out Wa.heap.size 1 1 [((k : Int), fb, fm)] rfl rfl HCb.out hlenV.out (by have := hbwb.size; omega) ?_))
        intro v' w' ho' hb3 hkeep
        have HV' : Aside (OwnC w' w2.heap.size v' ((ks.take (i + 1)).filterMap (M.aloneC b l m))) := by unfold Aside; rw [HFM.out]; exact ho'
        have HU2 := HU' w' (keep_row HUb.out (fun q hq e => hkeep q hq (apart_rows HUb.out HVb.out (by decide) q e)))
        have hb4 : Below w2.heap.size w2 w' := hbwb.trans hb3
        clear ho' hb3 hkeep HU' HV HU
        go_wp2
        go_roundg (gk - 1)
        case measure => omega
        case rel => exact ⟨i + 1, by omega, by go_num, HV', HU2, hb4⟩
      · -- both have changed it
        have other : cfun b l 100 (k : Int) = some (.agg #[.int .i64 (k : Int), .int .i64 fb, .int .i64 fl]) := by rw [cfun_at b l 100 k hk100, if_pos (by rw [← hfb, ← hfl]; exact hbl), ← hfb, ← hfl]; rfl
        have HG : Aside ((cfun b l 100 (k : Int)).getD (.agg #[.int .i64 0, .int .i64 0, .int .i64 0]) = .agg #[.int .i64 (k : Int), .int .i64 fb, .int .i64 fl]) := by unfold Aside; rw [other]; rfl
        have HI : Aside ((cfun b l 100 (k : Int)).isSome = true) := by unfold Aside; rw [other]; rfl
        rw [if_neg hbl] at FM
        have hcl : M.mclash fb fl fm = decide (fl ≠ fm) := by
          unfold M.mclash
          by_cases h : fl ≠ fm
          · rw [decide_eq_true h, decide_eq_true ⟨h, fun e => hbl e.symm, fun e => hneb e.symm⟩]
          · rw [decide_eq_false h, decide_eq_false (fun h2 => h h2.1)]
        rw [hcl] at FI
        have HV' : ∀ W, OwnC W w2.heap.size u6 ((ks.take i).filterMap (M.aloneC b l m)) → Aside (OwnC W w2.heap.size u6 ((ks.take (i + 1)).filterMap (M.aloneC b l m))) := fun W h => by unfold Aside; rw [FM]; simpa using h
        obtain ⟨Wa, hWa⟩ : ∃ Wa, Wa = wr.alloc (.cells #[.int .i64 (k : Int), .int .i64 fb, .int .i64 fl] 64) := ⟨_, rfl⟩
        have hba : Below wr.heap.size wr Wa := by rw [hWa]; exact (Below.refl _ _).alloc (Nat.le_refl _) _
        have hbw : Below w2.heap.size w2 Wa := hbel.trans (hba.mono hsz)
        have HPa : Aside (Mp Wa P 100 (cfun b m 100)) := HPr.out Wa hbw
        have HVa : Aside (OwnC Wa w2.heap.size u6 ((ks.take i).filterMap (M.aloneC b l m))) := HV.out.below hba
        have HUa : Aside (OwnI Wa w2.heap.size u7 ((ks.take i).filter (M.mclashK b l m))) := HU.out.below hba
        have HWa : Hid (Wa = wr.alloc (.cells #[.int .i64 (k : Int), .int .i64 fb, .int .i64 fl] 64)) := hWa
        clear hWa hba
        by_cases hlm : fl = fm
        · have hb1 : (fl == fm) = true := by simp [hlm]
          rw [if_neg (by simp [hlm]), List.append_nil] at FI
          have HU' : Aside (OwnI Wa w2.heap.size u7 ((ks.take (i + 1)).filter (M.mclashK b l m))) := by unfold Aside; rw [FI]; exact HUa.out
          have HV2 := HV' Wa HVa.out
          clear FM FI hbl other hcl ea ec hfb hfl hfm hk hne hneb one1 hgk hkc hlm HV' HV HU
          go_wp2_with (first
            | (at_lookup; refine wp_mp_ok rfl _ _ 159 64 rfl Tryz.underlying159 _ (zeroChange _) Q 100 (cfun b l 100) rfl HQr.out (k : Int) _ _ HG.out HI.out rfl (by omega) (by omega) ?_)
            | (at_lookup; rw [← HWa.out]; refine wp_mp_get rfl _ _ 159 64 rfl Tryz.underlying159 _ (zeroChange _) P 100 (cfun b m 100) rfl HPa.out (k : Int) _ HOne.out rfl (by omega) (by omega) ?_))
          go_roundg (gk - 1)
          case measure => omega
          case rel => exact ⟨i + 1, by omega, by go_num, HV2, HU', hbw⟩
        · have hb1 : (fl == fm) = false := by simp [hlm]
          rw [if_pos (by simp [hlm])] at FI
          have HFI : Aside ((ks.take (i + 1)).filter (M.mclashK b l m) = (ks.take i).filter (M.mclashK b l m) ++ [(k : Int)]) := FI
          obtain ⟨Wb, hWb⟩ : ∃ Wb, Wb = Wa.alloc (.cells #[.int .i64 (k : Int)] 3) := ⟨_, rfl⟩
          have hbb : Below Wa.heap.size Wa Wb := by rw [hWb]; exact (Below.refl _ _).alloc (Nat.le_refl _) _
          have HVb : Aside (OwnC Wb w2.heap.size u6 ((ks.take i).filterMap (M.aloneC b l m))) := HVa.out.below hbb
          have HUb : Aside (OwnI Wb w2.heap.size u7 ((ks.take i).filter (M.mclashK b l m))) := HUa.out.below hbb
          have hbwb : Below w2.heap.size w2 Wb := hbw.trans (hbb.mono hbw.size)
          have HWb : Hid (Wb = Wa.alloc (.cells #[.int .i64 (k : Int)] 3)) := hWb
          have HCb : Hid (∀ j, j < 1 → Wb.cell? ⟨Wa.heap.size, 0 + j, none⟩ = some (.int .i64 (([(k : Int)] : List Int).getD j 0))) := by rw [hWb]; exact ri_one Wa _
          clear FM FI hbl other hcl ea ec hfb hfl hfm hk hne hneb one1 hgk hkc hlm HV HU hWb hbb
          go_wp2_with (first
            | (at_lookup; refine wp_mp_ok rfl _ _ 159 64 rfl Tryz.underlying159 _ (zeroChange _) Q 100 (cfun b l 100) rfl HQr.out (k : Int) _ _ HG.out HI.out rfl (by omega) (by omega) ?_)
            | (at_lookup; rw [← HWa.out]; refine wp_mp_get rfl _ _ 159 64 rfl Tryz.underlying159 _ (zeroChange _) P 100 (cfun b m 100) rfl HPa.out (k : Int) _ HOne.out rfl (by omega) (by omega) ?_)
            | (at_builtin; rw [← HWb.out]; refine append_ri rfl _ _ rfl w2.heap.size _ ((ks.take i).filter (M.mclashK b l m)) rfl HUb.out Wa.heap.size 1 1 [(k : Int)] rfl rfl HCb.out hlenU.out (by have := hbwb.size; omega) ?_))
          intro v' w' ho' hb3 hkeep
          have HU' : Aside (OwnI w' w2.heap.size v' ((ks.take (i + 1)).filter (M.mclashK b l m))) := by unfold Aside; rw [HFI.out]; exact ho'
          have HV2 := HV' w' (keep_row HVb.out (fun q hq e => hkeep q hq (apart_rows HVb.out HUb.out (by decide) q e)))
          have hb4 : Below w2.heap.size w2 w' := hbwb.trans hb3
          clear ho' hb3 hkeep HV'
          go_wp2
          go_roundg (gk - 1)
          case measure => omega
          case rel => exact ⟨i + 1, by omega, by go_num, HV2, HU', hb4⟩
    · have et : ks.take i = ks := List.take_of_length_le (by rw [← HLN.out]; omega)
      have HV2 : Aside (OwnC wr w2.heap.size u6 (M.alone b l m)) := by have h := HV.out; rw [et, HKS.out] at h; exact h
      have HU2 : Aside (OwnI wr w2.heap.size u7 (M.mkeys b l m)) := by have h := HU.out; rw [et, HKS.out, M.mkeys_eq] at h; exact h
      clear et
      go_wp2
      go_ret2
      exact ⟨_, _, rfl, HV2.out.mono hs2, HU2.out.mono hs2, hb2.trans (hbel.mono hs2)⟩
end Go.Proofs.YtcgpgflnihjpiagGreat
