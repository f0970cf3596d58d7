/- dag.aboveAll, dag.Above. -/
import Derived.Test.YtcgpgflnihjpiadDag2
namespace Go.Proofs.Ytcgpgflnihjpiad
namespace M
/-- How many of those that are asked for the i-th is above. -/
def cnt (L : List Com) (xs : List Int) (i : Nat) : Nat := xs.countP (fun a => (above L a.toNat).getD i false)
def all (L : List Com) (xs : List Int) (i : Nat) : Bool := decide (((cnt L xs i : Nat) : Int) = ((xs.length : Nat) : Int))
theorem cnt_take (L : List Com) (xs : List Int) (k : Nat) (h : k < xs.length) (i : Nat) : cnt L (xs.take (k + 1)) i = cnt L (xs.take k) i + if (above L (xs.getD k 0).toNat).getD i false = true then 1 else 0 := by
  unfold cnt
  rw [List.take_succ_eq_append_getElem h, List.countP_append]
  simp [List.getD, h, List.countP_cons]
theorem cnt_le (L : List Com) (xs : List Int) (i : Nat) : cnt L xs i ≤ xs.length := List.countP_le_length
theorem all_one (L : List Com) (a : Nat) (i : Nat) : all L [(a : Int)] i = (above L a).getD i false := by
  unfold all cnt
  cases h : (above L a).getD i false <;> simp_all
theorem all_two (L : List Com) (a b : Nat) (i : Nat) : all L [(a : Int), (b : Int)] i = both L a b i := by
  unfold all cnt both
  cases h : (above L a).getD i false <;> cases k : (above L b).getD i false <;> simp_all
theorem iset (m : List Int) (j i : Nat) (v : Int) (h : j < m.length) : (m.set j v).getD i 0 = if i = j then v else m.getD i 0 := by
  simp only [List.getD, List.getElem?_set]
  by_cases e : j = i
  · subst e; simp [h]
  · rw [if_neg e, if_neg (by omega)]
theorem range_above (L : List Com) (n c : Nat) (hn : L.length = n) (f : Nat → Bool) (h : ∀ i, i < n → f i = (above L c).getD i false) : (List.range n).map f = above L c := by
  apply List.ext_getElem
  · simp [above_len, hn]
  · intro i h1 h2
    have hi : i < n := by simpa using h1
    simp [h i hi, List.getD, h2]
end M
open Go.RowKit

/-- Block g holds the numbers m. -/
def Io (w : World) (g : Nat) (m : List Int) : Prop := w.heap[g]? = some (.cells (m.map (Value.int .i64)).toArray 3 (0, 0))
theorem Io.cell {w : World} {g : Nat} {m : List Int} (h : Io w g m) {i : Nat} (hi : i < m.length) : w.cell? ⟨g, i, none⟩ = some (.int .i64 (m.getD i 0)) := by
  rw [cell_of_row w g i _ _ _ h]
  simp [List.getD, hi]
theorem Io.frozen {w : World} {g : Nat} {m : List Int} (h : Io w g m) (i : Nat) : w.frozen? ⟨g, i, none⟩ = false := frozen_of_row w g i _ _ h
theorem Io.lt {w : World} {g : Nat} {m : List Int} (h : Io w g m) : g < w.heap.size := (Array.getElem?_eq_some_iff.1 h).1
theorem Io.set {w : World} {g : Nat} {m : List Int} (h : Io w g m) (i : Nat) (t : Int) : Io (w.setCell ⟨g, i, none⟩ (.int .i64 t)) g (m.set i t) := by
  unfold Io
  rw [heap_setCell_same w g i _ _ _ h]
  simp [List.map_set]
theorem Io.below {w w' : World} {g B : Nat} {m : List Int} (h : Io w g m) (hb : Below B w w') (hg : g < B) : Io w' g m := (hb.block g hg).trans h
theorem Io.other {w : World} {g k : Nat} {m : List Int} (h : Io w g m) (i : Nat) (v : Value) (hg : g ≠ k) : Io (w.setCell ⟨k, i, none⟩ v) g m := (heap_setCell_other w ⟨k, i, none⟩ g v hg).trans h
theorem Bo.other {w : World} {g k : Nat} {m : List Bool} (h : Bo w g m) (i : Nat) (v : Value) (hg : g ≠ k) : Bo (w.setCell ⟨k, i, none⟩ v) g m := (heap_setCell_other w ⟨k, i, none⟩ g v hg).trans h

theorem make_int (n : Nat) (hn : n ≤ 1000) (W : World) : (Instr.makeSlice 43 (.int .i64 n) (.int .i64 n)).run Try.prog W = .ok (.slice (some ⟨W.heap.size, 0, none⟩) n n) (W.alloc (.cells ((List.replicate n 0).map (Value.int .i64)).toArray 3)) := by
  obtain ⟨i0, hi, hz0, hz1, hz2⟩ := info_parts infoInt
  have h := run_make (P := Try.prog) W 43 3 i0 _ Try.underlying43 hi hz0 .i64 .i64 n n (by omega) (by omega) (by rw [hz2]; omega) (by omega)
  rw [hz1] at h
  rw [h]
  have e : madeCells (Value.int .i64 0).cells ((n : Int).toNat * 1) = ((List.replicate n 0).map (Value.int .i64)).toArray := by
    apply Array.ext
    · simp [madeCells]
    · intro i h1 h2
      simp [madeCells, Value.cells, Nat.mod_one]
  rw [e]
  simp

/-- What aboveAll answers of right commits. -/
def AllPost (L : List M.Com) (xs : List Int) (n : Nat) (w : World) (e : Ending) (w' : World) : Prop :=
  Below w.heap.size w w' ∧ (((∃ x ∈ xs, x < 0 ∨ (n : Int) ≤ x) ∧ e = .returned (.tuple #[.slice none 0 0, .int .i64 5])) ∨
    ((∀ x ∈ xs, 0 ≤ x ∧ x < (n : Int)) ∧ ∃ g, w.heap.size ≤ g ∧ e = .returned (.tuple #[.slice (some ⟨g, 0, none⟩) n n, .int .i64 0]) ∧ Bo w' g ((List.range n).map (M.all L xs))))

theorem aboveAll_bad (a : Option Addr) (n cap : Nat) (L : List M.Com) (v : Value) (w : World) (h : Cm w a n L) (hm : n ≤ 9223372036854775807) (hz : M.dchk L ≠ 0) :
    Calls Try.prog 49 #[.slice a n cap, v] w fun e w' => e = .returned (.tuple #[.slice none 0 0, .int .i64 (M.dchk L)]) ∧ Below w.heap.size w w' := by
  have H := dcheck_any a n cap L w h hm
  obtain ⟨c, hc⟩ : ∃ c, c = M.dchk L := ⟨_, rfl⟩
  rw [← hc] at H hz ⊢
  have hne : (c != 0) = true := by simp [hz]
  have HH : Hid (Calls Try.prog 27 #[.slice a n cap] w fun e w' => e = .returned (.int .i64 c) ∧ Below w.heap.size w w') := H
  clear H hz hc h
  go_enter Try.func49, Try.ntmps49
  go_wp2_with (go_at_call 27; refine HH.out.mono ?_; rintro e w' ⟨rfl, hb1⟩)
  go_ret2
  exact ⟨rfl, hb1⟩

set_option maxHeartbeats 8000000 in
theorem aboveAll_good (a : Option Addr) (n cap : Nat) (L : List M.Com) (b2 off2 q qc : Nat) (xs : List Int) (w : World) (h : Cm w a n L) (hz : M.dchk L = 0) (hq : q ≤ 2) (hl : xs.length = q) (hB2 : b2 < w.heap.size)
    (hc : ∀ i, i < q → w.cell? ⟨b2, off2 + i, none⟩ = some (.int .i64 (xs.getD i 0))) :
    Calls Try.prog 49 #[.slice a n cap, .slice (some ⟨b2, off2, none⟩) q qc] w fun e w' => AllPost L xs n w e w' := by
  have hR := M.dchk_zero hz
  have hn : n ≤ 14 := by rw [← h.1]; exact hR.1
  have H := dcheck_any a n cap L w h (by omega)
  rw [hz] at H
  have HH : Hid (Calls Try.prog 27 #[.slice a n cap] w fun e w' => e = .returned (.int .i64 0) ∧ Below w.heap.size w w') := H
  have HCm : Aside (Cm w a n L) := h
  have HC : Aside (∀ i, i < q → w.cell? ⟨b2, off2 + i, none⟩ = some (.int .i64 (xs.getD i 0))) := hc
  have HL : Aside (xs.length = q) := hl
  have HZ : Aside (M.dchk L = 0) := hz
  have hmk := make_int n (by omega)
  have hmk2 := make_bool n (by omega)
  obtain ⟨Z, hZ⟩ : ∃ Z, Z = ((List.replicate n 0).map (Value.int .i64)).toArray := ⟨_, rfl⟩
  obtain ⟨Z2, hZ2⟩ : ∃ Z2, Z2 = ((List.replicate n false).map Value.bool).toArray := ⟨_, rfl⟩
  rw [← hZ] at hmk
  rw [← hZ2] at hmk2
  have HZE : Aside (Z = ((List.replicate n 0).map (Value.int .i64)).toArray) := hZ
  have HZE2 : Aside (Z2 = ((List.replicate n false).map Value.bool).toArray) := hZ2
  clear H h hc hl hz hZ hZ2 hR
  go_enter Try.func49, Try.ntmps49
  go_wp2_with fail
  refine HH.out.mono ?_
  rintro e w1 ⟨rfl, hb1⟩
  have B0 : Aside (Io (w1.alloc (.cells Z 3)) w1.heap.size (List.replicate n 0)) := by unfold Aside Io; rw [heap_alloc_new, HZE.out]
  have hsz1 := hb1.size
  clear HH
  go_wp2
  go_loopg [25] q (fun g i wr => ∃ (k : Nat) (tm : List Int), k + g = q ∧ i = .int .i64 k ∧ Aside (tm.length = n) ∧ Aside (Io wr w1.heap.size tm) ∧ Aside (∀ i, i < n → tm.getD i 0 = ((M.cnt L (xs.take k) i : Nat) : Int)) ∧ Aside (∀ x ∈ xs.take k, 0 ≤ x ∧ x < (n : Int)) ∧ Below w1.heap.size w1 wr)
  case atStart => exact ⟨0, List.replicate n 0, by omega, rfl, by simp [Aside], B0, fun i hi => by simp [M.cnt, List.getD, hi], by simp [Aside], (Below.refl _ _).alloc (Nat.le_refl _) _⟩
  case round =>
    obtain ⟨k, tm, hk, rfl, HTL, HT, HTC, HIn, hbel⟩ := hrel
    have hbw : Below w.heap.size w wr := hb1.trans (hbel.mono hsz1)
    by_cases hlt : k < q
    · obtain ⟨x, hx⟩ : ∃ x, xs.getD k 0 = x := ⟨_, rfl⟩
      have c0 : wr.cell? ⟨b2, off2 + k, none⟩ = some (.int .i64 x) := by rw [hbw.cell (p := ⟨b2, off2 + k, none⟩) hB2, HC.out k hlt, hx]
      have HX : Aside (xs.getD k 0 = x) := hx
      have hmem : Aside (x ∈ xs) := by unfold Aside; rw [← hx]; have h2 := HL.out; simp [List.getD, h2, hlt]
      clear hx
      by_cases hneg : x < 0
      · have hd : decide (x < 0) = true := by simp [hneg]
        go_wp2
        go_ret2
        exact ⟨hbw, Or.inl ⟨⟨x, hmem.out, Or.inl hneg⟩, rfl⟩⟩
      · have hd : decide (x < 0) = false := by simp; omega
        by_cases hbig : (n : Int) ≤ x
        · go_wp2
          go_ret2
          exact ⟨hbw, Or.inl ⟨⟨x, hmem.out, Or.inr hbig⟩, rfl⟩⟩
        · obtain ⟨c, rfl⟩ : ∃ c : Nat, x = (c : Int) := ⟨x.toNat, by omega⟩
          have hd2 : decide ((n : Int) ≤ (c : Int)) = false := by simp; omega
          have hcn : c < n := by omega
          have HO := aboveOne_any a n cap L c wr (HCm.out.below hbw (Nat.le_refl _)) HZ.out hcn
          have HOO : Hid (Calls Try.prog 72 #[.slice a n cap, .int .i64 c] wr fun e w' => e = .returned (.slice (some ⟨wr.heap.size, 0, none⟩) n n) ∧ Bo w' wr.heap.size (M.above L c) ∧ Below wr.heap.size wr w') := HO
          have hT1 := HT.out.lt
          have HIn2 : Aside (∀ x ∈ xs.take (k + 1), 0 ≤ x ∧ x < (n : Int)) := by
            intro y hy
            rw [List.take_succ_eq_append_getElem (by rw [HL.out]; exact hlt)] at hy
            rcases List.mem_append.1 hy with h | h
            · exact HIn.out y h
            · have e : xs[k]'(by rw [HL.out]; exact hlt) = (c : Int) := by rw [← HX.out]; have h2 := HL.out; simp [List.getD, h2, hlt]
              rw [e] at h
              have : y = (c : Int) := by simpa using h
              omega
          have HCk : Aside (∀ i, M.cnt L (xs.take (k + 1)) i = M.cnt L (xs.take k) i + if (M.above L c).getD i false = true then 1 else 0) := fun i => by
            rw [M.cnt_take L xs k (by rw [HL.out]; exact hlt) i, HX.out]; simp
          obtain ⟨wo, hwo⟩ : ∃ wo, wo = wr.heap.size := ⟨_, rfl⟩
          rw [← hwo] at HOO hT1
          have HBW : Aside (Below w1.heap.size w1 wr) := hbel
          have HWO : Aside (wo = wr.heap.size) := hwo
          have HAb : Aside ((M.above L c).length = n) := by unfold Aside; rw [M.above_len]; exact HCm.out.1
          clear HO hwo hbel hbw HIn
          go_wp2_with fail
          refine HOO.out.mono ?_
          rintro e w2 ⟨rfl, hbo, hb2⟩
          have HBo : Aside (Bo w2 wo (M.above L c)) := hbo
          have HT2 : Aside (Io w2 w1.heap.size tm) := HT.out.below hb2 (by omega)
          have hb3 : Below w1.heap.size w1 w2 := HBW.out.trans (hb2.mono (by have := HBW.out.size; rw [HWO.out]; exact HBW.out.size))
          clear hbo hb2 HOO
          go_wp2
          go_loopg [41] n (fun g2 i ws => ∃ (j : Nat) (tn : List Int), j + g2 = n ∧ i = .int .i64 j ∧ Aside (tn.length = n) ∧ Aside (Io ws w1.heap.size tn) ∧ Aside (∀ i, i < n → tn.getD i 0 = if i < j then ((M.cnt L (xs.take (k + 1)) i : Nat) : Int) else ((M.cnt L (xs.take k) i : Nat) : Int)) ∧ Aside (Bo ws wo (M.above L c)) ∧ Below w1.heap.size w1 ws)
          case atStart => exact ⟨0, tm, by omega, rfl, HTL, HT2, fun i hi => by rw [if_neg (by omega)]; exact HTC.out i hi, HBo, hb3⟩
          case round =>
            obtain ⟨j, tn, hj, rfl, HNL, HN, HNC, HBo2, hb4⟩ := hrel
            by_cases hjl : j < n
            · have cb := HBo2.out.cell (i := j) (by rw [HAb.out]; exact hjl)
              have ci := HN.out.cell (i := j) (by rw [HNL.out]; exact hjl)
              have fi := HN.out.frozen j
              have hcl := M.cnt_le L (xs.take k) j
              rw [List.length_take, HL.out] at hcl
              have hcj := HCk.out j
              have hnj := HNC.out j hjl
              rw [if_neg (by omega)] at hnj
              rw [hnj] at ci
              obtain ⟨d, hd'⟩ : ∃ d, M.cnt L (xs.take k) j = d := ⟨_, rfl⟩
              rw [hd'] at ci hcl hcj
              obtain ⟨t, ht⟩ : ∃ t, (M.above L c).getD j false = t := ⟨_, rfl⟩
              rw [ht] at cb hcj
              have hd3 : d ≤ 2 := by omega
              have HD : Aside (M.cnt L (xs.take k) j = d) := hd'
              cases t with
              | true =>
                rw [if_pos rfl] at hcj
                have HN' : Aside (Io (wr.setCell ⟨w1.heap.size, j, none⟩ (.int .i64 ((d : Int) + 1))) w1.heap.size (tn.set j ((d : Int) + 1))) := HN.out.set j _
                have HNC' : Aside (∀ i, i < n → (tn.set j ((d : Int) + 1)).getD i 0 = if i < j + 1 then ((M.cnt L (xs.take (k + 1)) i : Nat) : Int) else ((M.cnt L (xs.take k) i : Nat) : Int)) := fun i hi => by
                  rw [M.iset tn j i _ (by rw [HNL.out]; exact hjl)]
                  by_cases e : i = j
                  · subst e; rw [if_pos rfl, if_pos (by omega), hcj]; simp
                  · rw [if_neg e, HNC.out i hi]
                    by_cases e2 : i < j
                    · rw [if_pos e2, if_pos (by omega)]
                    · rw [if_neg e2, if_neg (by omega)]
                have HBo3 : Aside (Bo (wr.setCell ⟨w1.heap.size, j, none⟩ (.int .i64 ((d : Int) + 1))) wo (M.above L c)) := HBo2.out.other j _ (by omega)
                have hb5 := hb4.setCell (p := ⟨w1.heap.size, j, none⟩) (Nat.le_refl _) (.int .i64 ((d : Int) + 1))
                clear hd' hcj hnj ht hcl
                go_wp2
                go_roundg (gk - 1)
                case measure => omega
                case rel => exact ⟨j + 1, tn.set j ((d : Int) + 1), by omega, by go_num, by simpa [Aside] using HNL.out, HN', HNC', HBo3, hb5⟩
              | false =>
                rw [if_neg (by simp)] at hcj
                have HNC' : Aside (∀ i, i < n → tn.getD i 0 = if i < j + 1 then ((M.cnt L (xs.take (k + 1)) i : Nat) : Int) else ((M.cnt L (xs.take k) i : Nat) : Int)) := fun i hi => by
                  rw [HNC.out i hi]
                  by_cases e : i = j
                  · subst e; rw [if_neg (by omega), if_pos (by omega), hcj, HD.out]; simp
                  · by_cases e2 : i < j
                    · rw [if_pos e2, if_pos (by omega)]
                    · rw [if_neg e2, if_neg (by omega)]
                clear hd' hcj hnj ht hcl
                go_wp2
                go_roundg (gk - 1)
                case measure => omega
                case rel => exact ⟨j + 1, tn, by omega, by go_num, HNL, HN, HNC', HBo2, hb4⟩
            · obtain rfl : j = n := by omega
              have HNC' : Aside (∀ i, i < j → tn.getD i 0 = ((M.cnt L (xs.take (k + 1)) i : Nat) : Int)) := fun i hi => by rw [HNC.out i hi, if_pos hi]
              go_wp2
              go_roundg (q - (k + 1))
              case measure => omega
              case rel => exact ⟨k + 1, tn, by omega, by go_num, HNL, HN, HNC', HIn2, hb4⟩
    · obtain rfl : k = q := by omega
      have et : xs.take k = xs := List.take_of_length_le (by rw [HL.out]; exact Nat.le_refl _)
      have HIn3 : Aside (∀ x ∈ xs, 0 ≤ x ∧ x < (n : Int)) := by have h := HIn.out; rw [et] at h; exact h
      have HTC3 : Aside (∀ i, i < n → tm.getD i 0 = ((M.cnt L xs i : Nat) : Int)) := by have h := HTC.out; rw [et] at h; exact h
      obtain ⟨wo, hwo⟩ : ∃ wo, wo = wr.heap.size := ⟨_, rfl⟩
      have HWO : Aside (wo = wr.heap.size) := hwo
      have hT1 := HT.out.lt
      rw [← hwo] at hT1
      have HT2 : Aside (Io (wr.alloc (.cells Z2 4)) w1.heap.size tm) := HT.out.below ((Below.refl wr.heap.size wr).alloc (Nat.le_refl _) _) (by omega)
      have B2 : Aside (Bo (wr.alloc (.cells Z2 4)) wo (List.replicate n false)) := by unfold Aside Bo; rw [HWO.out, heap_alloc_new, HZE2.out]
      have hb4 := hbel.alloc hbel.size (.cells Z2 4)
      clear et HTC HIn hwo
      go_wp2
      rw [← HWO.out]
      go_loopg [60] n (fun g2 i ws => ∃ (j : Nat) (m : List Bool), j + g2 = n ∧ i = .int .i64 j ∧ Aside (m.length = n) ∧ Aside (Io ws w1.heap.size tm) ∧ Aside (Bo ws wo m) ∧ Aside (∀ i, i < j → m.getD i false = M.all L xs i) ∧ Below w1.heap.size w1 ws)
      case atStart => exact ⟨0, List.replicate n false, by omega, rfl, by simp [Aside], HT2, B2, fun i hi => by omega, hb4⟩
      case round =>
        obtain ⟨j, m, hj, rfl, HML, HN, HB, HMC, hb5⟩ := hrel
        by_cases hjl : j < n
        · have ci := HN.out.cell (i := j) (by rw [HTL.out]; exact hjl)
          have cb := HB.out.cell (i := j) (by rw [HML.out]; exact hjl)
          have fb := HB.out.frozen j
          obtain ⟨tb, htb⟩ : ∃ tb, m.getD j false = tb := ⟨_, rfl⟩
          rw [htb] at cb
          have e1 := HTC3.out j hjl
          rw [e1] at ci
          have e2 : M.all L xs j = decide (((M.cnt L xs j : Nat) : Int) = ((k : Nat) : Int)) := by unfold M.all; rw [HL.out]
          obtain ⟨d, hd⟩ : ∃ d, M.cnt L xs j = d := ⟨_, rfl⟩
          rw [hd] at ci e2
          have HE : Aside (M.all L xs j = decide ((d : Int) = (k : Int))) := e2
          have step : ∀ u : Bool, u = M.all L xs j → Aside (∀ i, i < j + 1 → (m.set j u).getD i false = M.all L xs i) := fun u hu i hi => by
            by_cases e : i = j
            · subst e; rw [← hu]; simp [List.getD, HML.out, hjl]
            · rw [← HMC.out i (by omega)]; simp only [List.getD, List.getElem?_set]; rw [if_neg (by omega)]
          by_cases hdk : (d : Int) = (k : Int)
          · have hdb : ((d : Int) == (k : Int)) = true := by simp [hdk]
            have HMC' := step true (by rw [HE.out, decide_eq_true hdk])
            have HN' : Aside (Io (wr.setCell ⟨wo, j, none⟩ (.bool true)) w1.heap.size tm) := HN.out.other j _ (by omega)
            have HB' : Aside (Bo (wr.setCell ⟨wo, j, none⟩ (.bool true)) wo (m.set j true)) := HB.out.set j true
            have hb6 := hb5.setCell (p := ⟨wo, j, none⟩) (by show _ ≤ wo; omega) (.bool true)
            clear hd e1 e2 hdk step htb
            go_wp2
            go_roundg (gk - 1)
            case measure => omega
            case rel => exact ⟨j + 1, m.set j true, by omega, by go_num, by simpa [Aside] using HML.out, HN', HB', HMC', hb6⟩
          · have hdb : ((d : Int) == (k : Int)) = false := by simp; omega
            have HMC' := step false (by rw [HE.out, decide_eq_false hdk])
            have HN' : Aside (Io (wr.setCell ⟨wo, j, none⟩ (.bool false)) w1.heap.size tm) := HN.out.other j _ (by omega)
            have HB' : Aside (Bo (wr.setCell ⟨wo, j, none⟩ (.bool false)) wo (m.set j false)) := HB.out.set j false
            have hb6 := hb5.setCell (p := ⟨wo, j, none⟩) (by show _ ≤ wo; omega) (.bool false)
            clear hd e1 e2 hdk step htb
            go_wp2
            go_roundg (gk - 1)
            case measure => omega
            case rel => exact ⟨j + 1, m.set j false, by omega, by go_num, by simpa [Aside] using HML.out, HN', HB', HMC', hb6⟩
        · obtain rfl : j = n := by omega
          have em : m = (List.range j).map (M.all L xs) := by
            apply List.ext_getElem
            · simp; exact HML.out
            · intro i h1 h2
              have hi : i < j := by simpa using h2
              have := HMC.out i hi
              simp [List.getD, h1] at this
              simp [this]
          have HB' : Aside (Bo wr wo ((List.range j).map (M.all L xs))) := by unfold Aside; rw [← em]; exact HB.out
          clear em
          go_wp2
          go_ret2
          exact ⟨hb1.trans (hb5.mono hsz1), Or.inr ⟨HIn3.out, wo, by omega, rfl, HB'.out⟩⟩
end Go.Proofs.Ytcgpgflnihjpiad
