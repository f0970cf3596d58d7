/- The reference's tables: spread, folded, PutOf. -/
import Derived.Test.YtcgpgflnihjpiacPut
import Derived.Test.YtcgpgflnihjpiacSame
import Derived.Test.YtcgpgflnihjpiacValue
import Derived.Test.YtcgpgflnihjpiacPut1
import Derived.Laws.Tables
import Derived.Laws.CopyOwn
namespace Go.Proofs.Ytcgpgflnihjpiac
open Go.RowKit

theorem zeroTable : ∃ Z : Array Value, Z.size = 100 ∧ ∀ W, (zeroValue 80).run Try.prog W = .ok (.agg Z) W := ⟨Array.replicate 100 (.int .i64 0), by simp, fun W => by kernel_rfl⟩
theorem infoTable : (Try.prog.info? 80).map (·.size) = some 100 := by kernel_rfl

theorem set_get (cs : Array Value) (k i : Nat) (v : Value) (hk : k < cs.size) : (cs.setIfInBounds k v)[i]? = if k = i then some v else cs[i]? := by
  rw [Array.getElem?_setIfInBounds]
  by_cases h : k = i
  · subst h; simp [hk]
  · simp [h]

set_option maxHeartbeats 4000000 in
theorem spread_any (a : Option Addr) (n cap : Nat) (l : List (Int × Int)) (w : World) (h : Rd w a n l) (hn : n ≤ 40) :
    Calls Try.prog 54 #[.slice a n cap] w fun e w' => ∃ cs : Array Value, e = .returned (.agg cs) ∧ cs.size = 100 ∧ (∀ i : Nat, i < 100 → cs[i]? = some (.int .i64 (M.find i l))) ∧ Below w.heap.size w w' := by
  obtain ⟨Z, hZ, hz⟩ := zeroTable
  have HR : Aside (Rd w a n l) := h
  clear h
  go_enter Try.func54, Try.ntmps54
  go_wp2_with fail
  go_loopg [4] 100 (fun g i wr => ∃ (k : Nat) (cs : Array Value), k + g = 100 ∧ i = .int .i64 k ∧ Aside (cs.size = 100) ∧ Aside (wr.heap[w.heap.size]? = some (.cells Z 80 (0, 0))) ∧ Aside (wr.heap[w.heap.size + 1]? = some (.cells cs 80 (0, 0))) ∧ Aside (∀ j : Nat, j < k → cs[j]? = some (.int .i64 (M.find j l))) ∧ Below w.heap.size w wr)
  case atStart => exact ⟨0, Z, by omega, rfl, hZ, heap_alloc2_old w _ _, heap_alloc2_new w _ _, fun j hj => by omega, ((Below.refl _ _).alloc (Nat.le_refl _) _).alloc (by simp) _⟩
  case round =>
    obtain ⟨k, cs, hk, rfl, HSz, H0, H1, HF, hb⟩ := hrel
    by_cases hlt : k < 100
    · have hc : wr.cell? ⟨w.heap.size + 1, k, none⟩ = cs[k]? := cell_of_row wr _ k cs _ _ H1.out
      obtain ⟨u, hu⟩ : ∃ u, cs[k]? = some u := ⟨_, Array.getElem?_eq_getElem (by rw [HSz.out]; exact hlt)⟩
      rw [hu] at hc
      have hf : wr.frozen? ⟨w.heap.size + 1, k, none⟩ = false := frozen_of_row wr _ k cs _ H1.out
      clear hu
      obtain ⟨x, hx⟩ : ∃ x, x = M.find k l := ⟨_, rfl⟩
      have HX : Aside (x = M.find k l) := hx
      have HV : Aside (Calls Try.prog 80 #[.slice a n cap, .int .i64 k] wr fun e w' => e = .returned (.int .i64 x) ∧ w' = wr) := by rw [hx]; exact value_any a n cap l k wr (HR.out.below hb (Nat.le_refl _)) hn
      clear hx
      go_wp2_with fail
      refine HV.out.mono ?_
      rintro e w1 ⟨rfl, hw⟩
      subst hw
      have H0' : Aside ((w1.setCell ⟨w.heap.size + 1, k, none⟩ (.int .i64 x)).heap[w.heap.size]? = some (.cells Z 80 (0, 0))) := (heap_setCell_other w1 _ _ _ (by simp)).trans H0.out
      have H1' : Aside ((w1.setCell ⟨w.heap.size + 1, k, none⟩ (.int .i64 x)).heap[w.heap.size + 1]? = some (.cells (cs.setIfInBounds k (.int .i64 x)) 80 (0, 0))) := heap_setCell_same w1 _ k cs _ _ H1.out
      have HF' : Aside (∀ j : Nat, j < k + 1 → (cs.setIfInBounds k (.int .i64 x))[j]? = some (.int .i64 (M.find j l))) := fun j hj => by
        rw [set_get cs k j _ (by rw [HSz.out]; exact hlt)]
        by_cases e : k = j
        · subst e; rw [if_pos rfl, HX.out]
        · rw [if_neg e]; exact HF.out j (by omega)
      have hb' := hb.setCell (p := ⟨w.heap.size + 1, k, none⟩) (by simp) (.int .i64 x)
      clear HV
      go_wp2
      go_roundg (gk - 1)
      case measure => omega
      case rel => exact ⟨k + 1, cs.setIfInBounds k (.int .i64 x), by omega, by go_num, by simpa [Aside] using HSz.out, H0', H1', HF', hb'⟩
    · have HF' : Aside (∀ j : Nat, j < 100 → cs[j]? = some (.int .i64 (M.find j l))) := fun j hj => HF.out j (by omega)
      have hone : Aside (cs.all (·.oneCell') = true) := by
        refine Array.all_eq_true_iff_forall_mem.2 fun v hv => ?_
        obtain ⟨j, hj, e⟩ := Array.mem_iff_getElem.1 hv
        have h2 := HF'.out j (by rw [← HSz.out]; exact hj)
        rw [Array.getElem?_eq_getElem hj, e] at h2
        cases h2
        rfl
      go_wp2_with (first | (refine wpList_load_row rfl 80 _ rfl (w.heap.size + 1) rfl 80 cs _ _ H1.out Try.underlying80 rfl (by rw [HSz.out]; exact infoTable) ?_) | (refine wpList_store_row rfl 80 _ _ rfl w.heap.size cs rfl rfl 80 Z H0.out (by rw [HSz.out]; exact infoTable) (by rw [HSz.out]; exact hZ) hone.out ?_))
      exact bodyPost_ret (v := .agg cs) (results_cell_row Try.results54 _ _ w.heap.size 80 cs (0, 0) _ rfl (setRow_heap wr _ Z cs _ _ H0.out) Try.underlying80 rfl (by rw [HSz.out]; exact infoTable)) rfl ⟨cs, rfl, HSz.out, HF'.out, below_setRow hb (Nat.le_refl _) cs⟩

namespace M
/-- The rows of a table, up to a key. -/
def foldTo (f : Nat → Int) : Nat → List (Int × Int)
  | 0 => []
  | k + 1 => if f k = -1 then foldTo f k else foldTo f k ++ [((k : Int), f k)]
theorem foldTo_len (f : Nat → Int) (k : Nat) : (foldTo f k).length ≤ k := by
  induction k with
  | zero => simp [foldTo]
  | succ k ih => rw [foldTo]; split
                 · omega
                 · simp; omega
theorem mem_foldTo (f : Nat → Int) (k : Nat) (r : Int × Int) : r ∈ foldTo f k ↔ ∃ i, i < k ∧ f i ≠ -1 ∧ r = ((i : Int), f i) := by
  induction k with
  | zero => simp [foldTo]
  | succ k ih =>
    rw [foldTo]
    split
    · rename_i h
      rw [ih]
      constructor
      · rintro ⟨i, h1, h2, h3⟩; exact ⟨i, by omega, h2, h3⟩
      · rintro ⟨i, h1, h2, h3⟩
        by_cases e : i = k
        · subst e; exact absurd h h2
        · exact ⟨i, by omega, h2, h3⟩
    · rename_i h
      rw [List.mem_append, ih]
      constructor
      · rintro (⟨i, h1, h2, h3⟩ | h1)
        · exact ⟨i, by omega, h2, h3⟩
        · exact ⟨k, by omega, h, by simpa using h1⟩
      · rintro ⟨i, h1, h2, h3⟩
        by_cases e : i = k
        · subst e; exact Or.inr (by simp [h3])
        · exact Or.inl ⟨i, by omega, h2, h3⟩
theorem foldTo_pair (f : Nat → Int) (k : Nat) : (foldTo f k).Pairwise (fun a b => a.1 < b.1) := by
  induction k with
  | zero => simp [foldTo]
  | succ k ih =>
    rw [foldTo]
    split
    · exact ih
    · rw [List.pairwise_append]
      refine ⟨ih, by simp, fun x hx y hy => ?_⟩
      obtain ⟨i, h1, _, rfl⟩ := (mem_foldTo f k x).1 hx
      have : y = ((k : Int), f k) := by simpa using hy
      subst this
      show (i : Int) < (k : Int)
      omega
/-- A table with one value put is the rows with that key put. -/
theorem fold_put {key val : Int} {l : List (Int × Int)} (ok : Ok l) (h0 : 0 ≤ key) (h1 : key ≤ 99) (v0 : -1 ≤ val) (v1 : val ≤ 996) (f : Nat → Int) (hf : ∀ i : Nat, i < 100 → f i = if (i : Int) = key then val else find i l) : foldTo f 100 = put key val l := by
  have okp := put_ok ok h0 h1 v0 v1
  have okf : Ok (foldTo f 100) := by
    refine ⟨fun r hr => ?_, foldTo_pair f 100⟩
    obtain ⟨i, hi, hne, rfl⟩ := (mem_foldTo f 100 r).1 hr
    have e := hf i hi
    have hr := find_range (key := (i : Int)) ok
    refine ⟨by show 0 ≤ (i : Int); omega, by show (i : Int) ≤ 99; omega, ?_, ?_⟩
    · show 0 ≤ f i
      rw [e] at hne ⊢
      split at hne <;> simp_all <;> omega
    · show f i ≤ 996
      rw [e]; split <;> omega
  refine ext _ _ okf okp fun k => ?_
  by_cases hk : 0 ≤ k ∧ k ≤ 99
  · obtain ⟨i, rfl⟩ := Int.eq_ofNat_of_zero_le hk.1
    have hi : i < 100 := by omega
    have e1 : find (i : Int) (foldTo f 100) = f i := by
      by_cases hne : f i = -1
      · rw [hne]
        refine find_none _ _ fun r hr e => ?_
        obtain ⟨j, hj, hn, rfl⟩ := (mem_foldTo f 100 r).1 hr
        have : j = i := by have : (j : Int) = (i : Int) := e; omega
        subst this
        exact hn hne
      · exact find_mem _ _ okf.2 ((i : Int), f i) ((mem_foldTo f 100 _).2 ⟨i, hi, hne, rfl⟩) rfl
    rw [e1, hf i hi]
    by_cases e : (i : Int) = key
    · rw [if_pos e, e, find_put_same ok h0 h1 v0 v1]
    · rw [if_neg e, find_put_other ok h0 h1 v0 v1 e]
  · rw [find_none k _ fun r hr e => ?_, find_none k _ fun r hr e => ?_]
    · have := okp.1 r hr; omega
    · have := okf.1 r hr; omega
end M

set_option maxHeartbeats 4000000 in
theorem folded_any (cs : Array Value) (f : Nat → Int) (w : World) (hf : ∀ i : Nat, i < 100 → cs[i]? = some (.int .i64 (f i))) :
    Calls Try.prog 55 #[.agg cs] w fun e w' => ∃ v, e = .returned v ∧ Own w' (w.heap.size + 1) v (M.foldTo f 100) ∧ Below w.heap.size w w' := by
  obtain ⟨Wb, hWb⟩ : ∃ Wb, Wb = w.alloc (.cells cs 80) := ⟨_, rfl⟩
  have bb : Below w.heap.size w Wb := by rw [hWb]; exact (Below.refl _ _).alloc (Nat.le_refl _) _
  have hbs : Wb.heap.size = w.heap.size + 1 := by rw [hWb]; simp
  have hrow : Wb.heap[w.heap.size]? = some (.cells cs 80 (0, 0)) := by rw [hWb]; exact heap_alloc_new w _
  have HW : Hid (Wb = w.alloc (.cells cs 80)) := hWb
  have HCells : Aside (∀ W, Below Wb.heap.size Wb W → ∀ i : Nat, i < 100 → W.cell? ⟨w.heap.size, i, none⟩ = some (.int .i64 (f i))) := fun W hW i hi => by
    rw [hW.cell (p := ⟨w.heap.size, i, none⟩) (by show w.heap.size < _; omega), cell_of_row Wb _ i cs _ _ hrow]
    exact hf i hi
  have HBs : Aside (Wb.heap.size = w.heap.size + 1) := hbs
  clear hWb hrow hf hbs
  go_enter Try.func55, Try.ntmps55
  go_wp2_with fail
  rw [← HW.out]
  go_loopg [3, 4] 100 (fun g v i wr => ∃ k : Nat, k + g = 100 ∧ i = .int .i64 k ∧ Aside (Own wr (w.heap.size + 1) v (M.foldTo f k)) ∧ Below Wb.heap.size Wb wr)
  case atStart => exact ⟨0, by omega, rfl, World.ownsRow_nil _ _ _ _, Below.refl _ _⟩
  case round =>
    obtain ⟨k, hk, rfl, HO, hb⟩ := hrel
    have hsz2 := hb.size
    by_cases hlt : k < 100
    · have hc := HCells.out wr hb k hlt
      obtain ⟨x, hx⟩ : ∃ x, x = f k := ⟨_, rfl⟩
      rw [← hx] at hc
      have HX : Aside (x = f k) := hx
      clear hx
      by_cases hx1 : x = -1
      · have hxb : (x != -1) = false := by simp [hx1]
        have HO' : Aside (Own wr (w.heap.size + 1) u3 (M.foldTo f (k + 1))) := by unfold Aside; rw [M.foldTo, if_pos (by rw [← HX.out]; exact hx1)]; exact HO.out
        clear hx1
        go_wp2
        go_roundg (gk - 1)
        case measure => omega
        case rel => exact ⟨k + 1, by omega, by go_num, HO', hb⟩
      · have hxb : (x != -1) = true := by simp [hx1]
        have EX : Aside (M.foldTo f (k + 1) = M.foldTo f k ++ [((k : Int), x)]) := by unfold Aside; rw [M.foldTo, if_neg (by rw [← HX.out]; exact hx1), HX.out]
        have HO1 : Aside (Own (wr.alloc (.cells #[.int .i64 (k : Int), .int .i64 x] 56)) (w.heap.size + 1) u3 (M.foldTo f k)) := World.ownsRow.alloc HO.out _
        have HR : Aside (Rd (wr.alloc (.cells #[.int .i64 (k : Int), .int .i64 x] 56)) (some ⟨wr.heap.size, 0, none⟩) 1 [((k : Int), x)]) := one_rd wr _ _
        have HL : Aside ((M.foldTo f k).length + 1 ≤ 1000000) := by have := M.foldTo_len f k; unfold Aside; omega
        clear hx1
        go_wp2_with (at_builtin; refine append_rd rfl _ _ rfl (w.heap.size + 1) _ (M.foldTo f k) rfl HO1.out (some ⟨wr.heap.size, 0, none⟩) 1 1 _ rfl HR.out (by simp) HL.out (by have := HBs.out; simp; omega) ?_)
        intro v' w' ho' hb3
        have HO' : Aside (Own w' (w.heap.size + 1) v' (M.foldTo f (k + 1))) := by unfold Aside; rw [EX.out]; exact ho'
        have hb4 : Below Wb.heap.size Wb w' := (hb.alloc hb.size _).trans (hb3.mono (by rw [HBs.out]; omega))
        clear ho' hb3 HO1 HR
        go_wp2
        go_roundg (gk - 1)
        case measure => omega
        case rel => exact ⟨k + 1, by omega, by go_num, HO', hb4⟩
    · obtain rfl : k = 100 := by omega
      go_wp2
      go_ret
      exact ⟨_, rfl, HO.out, bb.trans (hb.mono (by rw [HBs.out]; omega))⟩
end Go.Proofs.Ytcgpgflnihjpiac
