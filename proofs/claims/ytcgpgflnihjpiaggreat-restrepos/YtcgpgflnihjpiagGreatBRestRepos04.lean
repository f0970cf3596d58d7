/- The reference's tables: spread, folded, PutOf. -/
import Derived.Test.YtcgpgflnihjpiagGreatBRestRepos03
import Derived.Laws.Tables
import Derived.Laws.CopyOwn
import Derived.Test.YtcgpgflnihjpiagGreatBRestRepos01
import Derived.Maps.OwnOps
import Derived.Maps.OwnSet
import Derived.Lib.SlKeysI
import Derived.Test.YtcgpgflnihjpiagGreatBRestRepos02
import Derived.WalkLawsBesides
import Derived.Laws.Panics
namespace Go.Proofs.YtcgpgflnihjpiagGreat
open Go.RowKit

theorem zeroTable : ∃ Z : Array Value, Z.size = 100 ∧ ∀ W, (zeroValue 170).run Tryz.prog W = .ok (.agg Z) W := ⟨Array.replicate 100 (.int .i64 0), by simp, fun W => by kernel_rfl⟩
theorem infoTable : (Tryz.prog.info? 170).map (·.size) = some 100 := by kernel_rfl

theorem set_get (cs : Array Value) (k i : Nat) (v : Value) (hk : k < cs.size) : (cs.setIfInBounds k v)[i]? = if k = i then some v else cs[i]? := by
  rw [Array.getElem?_setIfInBounds]
  by_cases h : k = i
  · subst h; simp [hk]
  · simp [h]

set_option maxHeartbeats 4000000 in
theorem spread_any (a : Option Addr) (n cap : Nat) (l : List (Int × Int)) (w : World) (h : Rd w a n l) (hn : n ≤ 40) :
    Calls Tryz.prog 126 #[.slice a n cap] w fun e w' => ∃ cs : Array Value, e = .returned (.agg cs) ∧ cs.size = 100 ∧ (∀ i : Nat, i < 100 → cs[i]? = some (.int .i64 (M.find i l))) ∧ Below w.heap.size w w' := by
  obtain ⟨Z, hZ, hz⟩ := zeroTable
  have HR : Aside (Rd w a n l) := h
  clear h
  go_enter Tryz.func126, Tryz.ntmps126
  go_wp2_with fail
  go_loopg [4] 100 (fun g i wr => ∃ (k : Nat) (cs : Array Value), k + g = 100 ∧ i = .int .i64 k ∧ Aside (cs.size = 100) ∧ Aside (wr.heap[w.heap.size]? = some (.cells Z 170 (0, 0))) ∧ Aside (wr.heap[w.heap.size + 1]? = some (.cells cs 170 (0, 0))) ∧ Aside (∀ j : Nat, j < k → cs[j]? = some (.int .i64 (M.find j l))) ∧ Below w.heap.size w wr)
  case atStart => exact ⟨0, Z, by omega, rfl, hZ, heap_alloc2_old w _ _, heap_alloc2_new w _ _, fun j hj => by omega, ((Below.refl _ _).alloc (Nat.le_refl _) _).alloc (by simp) _⟩
  case round =>
    obtain ⟨k, cs, hk, rfl, HSz, H0, H1, HF, hb⟩ := hrel
    by_cases hlt : k < 100
    · have hc : wr.cell? ⟨w.heap.size + 1, k, none⟩ = cs[k]? := cell_of_row wr _ k cs _ _ H1.out
      obtain ⟨u, hu⟩ : ∃ u, cs[k]? = some u := ⟨_, Array.getElem?_eq_getElem (by rw [HSz.out]; exact hlt)⟩
      rw [hu] at hc
      have hf : wr.frozen? ⟨w.heap.size + 1, k, none⟩ = false := frozen_of_row wr _ k cs _ H1.out
      clear hu
      obtain ⟨x, hx⟩ : ∃ x, x = M.find k l := ⟨_, rfl⟩
      have HX : Aside (x = M.find k l) := hx
      have HV : Aside (Calls Tryz.prog 150 #[.slice a n cap, .int .i64 k] wr fun e w' => e = .returned (.int .i64 x) ∧ w' = wr) := by rw [hx]; exact value_any a n cap l k wr (HR.out.below hb (Nat.le_refl _)) hn
      clear hx
      go_wp2_with fail
      refine HV.out.mono ?_
      rintro e w1 ⟨rfl, hw⟩
      subst hw
      have H0' : Aside ((w1.setCell ⟨w.heap.size + 1, k, none⟩ (.int .i64 x)).heap[w.heap.size]? = some (.cells Z 170 (0, 0))) := (heap_setCell_other w1 _ _ _ (by simp)).trans H0.out
      have H1' : Aside ((w1.setCell ⟨w.heap.size + 1, k, none⟩ (.int .i64 x)).heap[w.heap.size + 1]? = some (.cells (cs.setIfInBounds k (.int .i64 x)) 170 (0, 0))) := heap_setCell_same w1 _ k cs _ _ H1.out
      have HF' : Aside (∀ j : Nat, j < k + 1 → (cs.setIfInBounds k (.int .i64 x))[j]? = some (.int .i64 (M.find j l))) := fun j hj => by
        rw [set_get cs k j _ (by rw [HSz.out]; exact hlt)]
        by_cases e : k = j
        · subst e; rw [if_pos rfl, HX.out]
        · rw [if_neg e]; exact HF.out j (by omega)
      have hb' := hb.setCell (p := ⟨w.heap.size + 1, k, none⟩) (by simp) (.int .i64 x)
      clear HV
      go_wp2
      go_roundg (gk - 1)
      case measure => omega
      case rel => exact ⟨k + 1, cs.setIfInBounds k (.int .i64 x), by omega, by go_num, by simpa [Aside] using HSz.out, H0', H1', HF', hb'⟩
    · have HF' : Aside (∀ j : Nat, j < 100 → cs[j]? = some (.int .i64 (M.find j l))) := fun j hj => HF.out j (by omega)
      have hone : Aside (cs.all (·.oneCell') = true) := by
        refine Array.all_eq_true_iff_forall_mem.2 fun v hv => ?_
        obtain ⟨j, hj, e⟩ := Array.mem_iff_getElem.1 hv
        have h2 := HF'.out j (by rw [← HSz.out]; exact hj)
        rw [Array.getElem?_eq_getElem hj, e] at h2
        cases h2
        rfl
      go_wp2_with (first | (refine wpList_load_row rfl 170 _ rfl (w.heap.size + 1) rfl 170 cs _ _ H1.out Tryz.underlying170 rfl (by rw [HSz.out]; exact infoTable) ?_) | (refine wpList_store_row rfl 170 _ _ rfl w.heap.size cs rfl rfl 170 Z H0.out (by rw [HSz.out]; exact infoTable) (by rw [HSz.out]; exact hZ) hone.out ?_))
      exact bodyPost_ret (v := .agg cs) (results_cell_row Tryz.results126 _ _ w.heap.size 170 cs (0, 0) _ rfl (setRow_heap wr _ Z cs _ _ H0.out) Tryz.underlying170 rfl (by rw [HSz.out]; exact infoTable)) rfl ⟨cs, rfl, HSz.out, HF'.out, below_setRow hb (Nat.le_refl _) cs⟩

namespace M
/-- The rows of a table, up to a key. -/
def foldTo (f : Nat → Int) : Nat → List (Int × Int)
  | 0 => []
  | k + 1 => if f k = -1 then foldTo f k else foldTo f k ++ [((k : Int), f k)]
theorem foldTo_len (f : Nat → Int) (k : Nat) : (foldTo f k).length ≤ k := by
  induction k with
  | zero => simp [foldTo]
  | succ k ih => rw [foldTo]; split
                 · omega
                 · simp; omega
theorem mem_foldTo (f : Nat → Int) (k : Nat) (r : Int × Int) : r ∈ foldTo f k ↔ ∃ i, i < k ∧ f i ≠ -1 ∧ r = ((i : Int), f i) := by
  induction k with
  | zero => simp [foldTo]
  | succ k ih =>
    rw [foldTo]
    split
    · rename_i h
      rw [ih]
      constructor
      · rintro ⟨i, h1, h2, h3⟩; exact ⟨i, by omega, h2, h3⟩
      · rintro ⟨i, h1, h2, h3⟩
        by_cases e : i = k
        · subst e; exact absurd h h2
        · exact ⟨i, by omega, h2, h3⟩
    · rename_i h
      rw [List.mem_append, ih]
      constructor
      · rintro (⟨i, h1, h2, h3⟩ | h1)
        · exact ⟨i, by omega, h2, h3⟩
        · exact ⟨k, by omega, h, by simpa using h1⟩
      · rintro ⟨i, h1, h2, h3⟩
        by_cases e : i = k
        · subst e; exact Or.inr (by simp [h3])
        · exact Or.inl ⟨i, by omega, h2, h3⟩
theorem foldTo_pair (f : Nat → Int) (k : Nat) : (foldTo f k).Pairwise (fun a b => a.1 < b.1) := by
  induction k with
  | zero => simp [foldTo]
  | succ k ih =>
    rw [foldTo]
    split
    · exact ih
    · rw [List.pairwise_append]
      refine ⟨ih, by simp, fun x hx y hy => ?_⟩
      obtain ⟨i, h1, _, rfl⟩ := (mem_foldTo f k x).1 hx
      have : y = ((k : Int), f k) := by simpa using hy
      subst this
      show (i : Int) < (k : Int)
      omega
/-- A table with one value put is the rows with that key put. -/
theorem fold_put {key val : Int} {l : List (Int × Int)} (ok : Ok l) (h0 : 0 ≤ key) (h1 : key ≤ 99) (v0 : -1 ≤ val) (v1 : val ≤ 996) (f : Nat → Int) (hf : ∀ i : Nat, i < 100 → f i = if (i : Int) = key then val else find i l) : foldTo f 100 = put key val l := by
  have okp := put_ok ok h0 h1 v0 v1
  have okf : Ok (foldTo f 100) := by
    refine ⟨fun r hr => ?_, foldTo_pair f 100⟩
    obtain ⟨i, hi, hne, rfl⟩ := (mem_foldTo f 100 r).1 hr
    have e := hf i hi
    have hr := find_range (key := (i : Int)) ok
    refine ⟨by show 0 ≤ (i : Int); omega, by show (i : Int) ≤ 99; omega, ?_, ?_⟩
    · show 0 ≤ f i
      rw [e] at hne ⊢
      split at hne <;> simp_all <;> omega
    · show f i ≤ 996
      rw [e]; split <;> omega
  refine ext _ _ okf okp fun k => ?_
  by_cases hk : 0 ≤ k ∧ k ≤ 99
  · obtain ⟨i, rfl⟩ := Int.eq_ofNat_of_zero_le hk.1
    have hi : i < 100 := by omega
    have e1 : find (i : Int) (foldTo f 100) = f i := by
      by_cases hne : f i = -1
      · rw [hne]
        refine find_none _ _ fun r hr e => ?_
        obtain ⟨j, hj, hn, rfl⟩ := (mem_foldTo f 100 r).1 hr
        have : j = i := by have : (j : Int) = (i : Int) := e; omega
        subst this
        exact hn hne
      · exact find_mem _ _ okf.2 ((i : Int), f i) ((mem_foldTo f 100 _).2 ⟨i, hi, hne, rfl⟩) rfl
    rw [e1, hf i hi]
    by_cases e : (i : Int) = key
    · rw [if_pos e, e, find_put_same ok h0 h1 v0 v1]
    · rw [if_neg e, find_put_other ok h0 h1 v0 v1 e]
  · rw [find_none k _ fun r hr e => ?_, find_none k _ fun r hr e => ?_]
    · have := okp.1 r hr; omega
    · have := okf.1 r hr; omega
end M

set_option maxHeartbeats 4000000 in
theorem folded_any (cs : Array Value) (f : Nat → Int) (w : World) (hf : ∀ i : Nat, i < 100 → cs[i]? = some (.int .i64 (f i))) :
    Calls Tryz.prog 127 #[.agg cs] w fun e w' => ∃ v, e = .returned v ∧ Own w' (w.heap.size + 1) v (M.foldTo f 100) ∧ Below w.heap.size w w' := by
  obtain ⟨Wb, hWb⟩ : ∃ Wb, Wb = w.alloc (.cells cs 170) := ⟨_, rfl⟩
  have bb : Below w.heap.size w Wb := by rw [hWb]; exact (Below.refl _ _).alloc (Nat.le_refl _) _
  have hbs : Wb.heap.size = w.heap.size + 1 := by rw [hWb]; simp
  have hrow : Wb.heap[w.heap.size]? = some (.cells cs 170 (0, 0)) := by rw [hWb]; exact heap_alloc_new w _
  have HW : Hid (Wb = w.alloc (.cells cs 170)) := hWb
  have HCells : Aside (∀ W, Below Wb.heap.size Wb W → ∀ i : Nat, i < 100 → W.cell? ⟨w.heap.size, i, none⟩ = some (.int .i64 (f i))) := fun W hW i hi => by
    rw [hW.cell (p := ⟨w.heap.size, i, none⟩) (by show w.heap.size < _; omega), cell_of_row Wb _ i cs _ _ hrow]
    exact hf i hi
  have HBs : Aside (Wb.heap.size = w.heap.size + 1) := hbs
  clear hWb hrow hf hbs
  go_enter Tryz.func127, Tryz.ntmps127
  go_wp2_with fail
  rw [← HW.out]
  go_loopg [3, 4] 100 (fun g v i wr => ∃ k : Nat, k + g = 100 ∧ i = .int .i64 k ∧ Aside (Own wr (w.heap.size + 1) v (M.foldTo f k)) ∧ Below Wb.heap.size Wb wr)
  case atStart => exact ⟨0, by omega, rfl, World.ownsRow_nil _ _ _ _, Below.refl _ _⟩
  case round =>
    obtain ⟨k, hk, rfl, HO, hb⟩ := hrel
    have hsz2 := hb.size
    by_cases hlt : k < 100
    · have hc := HCells.out wr hb k hlt
      obtain ⟨x, hx⟩ : ∃ x, x = f k := ⟨_, rfl⟩
      rw [← hx] at hc
      have HX : Aside (x = f k) := hx
      clear hx
      by_cases hx1 : x = -1
      · have hxb : (x != -1) = false := by simp [hx1]
        have HO' : Aside (Own wr (w.heap.size + 1) u3 (M.foldTo f (k + 1))) := by unfold Aside; rw [M.foldTo, if_pos (by rw [← HX.out]; exact hx1)]; exact HO.out
        clear hx1
        go_wp2
        go_roundg (gk - 1)
        case measure => omega
        case rel => exact ⟨k + 1, by omega, by go_num, HO', hb⟩
      · have hxb : (x != -1) = true := by simp [hx1]
        have EX : Aside (M.foldTo f (k + 1) = M.foldTo f k ++ [((k : Int), x)]) := by unfold Aside; rw [M.foldTo, if_neg (by rw [← HX.out]; exact hx1), HX.out]
        have HO1 : Aside (Own (wr.alloc (.cells #[.int .i64 (k : Int), .int .i64 x] 56)) (w.heap.size + 1) u3 (M.foldTo f k)) := World.ownsRow.alloc HO.out _
        have HR : Aside (Rd (wr.alloc (.cells #[.int .i64 (k : Int), .int .i64 x] 56)) (some ⟨wr.heap.size, 0, none⟩) 1 [((k : Int), x)]) := one_rd wr _ _
        have HL : Aside ((M.foldTo f k).length + 1 ≤ 1000000) := by have := M.foldTo_len f k; unfold Aside; omega
        clear hx1
        go_wp2_with (at_builtin; refine append_rd rfl _ _ rfl (w.heap.size + 1) _ (M.foldTo f k) rfl HO1.out (some ⟨wr.heap.size, 0, none⟩) 1 1 _ rfl HR.out (by simp) HL.out (by have := HBs.out; simp; omega) ?_)
        intro v' w' ho' hb3
        have HO' : Aside (Own w' (w.heap.size + 1) v' (M.foldTo f (k + 1))) := by unfold Aside; rw [EX.out]; exact ho'
        have hb4 : Below Wb.heap.size Wb w' := (hb.alloc hb.size _).trans (hb3.mono (by rw [HBs.out]; omega))
        clear ho' hb3 HO1 HR
        go_wp2
        go_roundg (gk - 1)
        case measure => omega
        case rel => exact ⟨k + 1, by omega, by go_num, HO', hb4⟩
    · obtain rfl : k = 100 := by omega
      go_wp2
      go_ret
      exact ⟨_, rfl, HO.out, bb.trans (hb.mono (by rw [HBs.out]; omega))⟩
end Go.Proofs.YtcgpgflnihjpiagGreat

/- A map of the call's own with numbers as keys, as a function on numbers. -/
namespace Go.Proofs.YtcgpgflnihjpiagGreat
namespace M
theorem sel_rise (p : Nat → Bool) (n : Nat) : (sel p n).Pairwise (· < ·) := by
  induction n with
  | zero => simp [sel]
  | succ n ih =>
    rw [sel]
    split
    · rw [List.pairwise_append]
      refine ⟨ih, by simp, fun x hx y hy => ?_⟩
      obtain ⟨k, hk, _, rfl⟩ := (mem_sel p n x).1 hx
      have : y = (n : Int) := by simpa using hy
      omega
    · exact ih
end M
open Go.RowKit Go.Maps

/-- An element stands for itself. -/
def RH (v : Value) : Option (DataW Value × List MemPlace) := some (.held v, [])
theorem klawM : Keyed Tryz.prog 3 := int_keyed Tryz.underlying3
def upd (f : Int → Option Value) (x : Int) (v : Value) : Int → Option Value := fun y => if y = x then some v else f y
theorem upd_same (f : Int → Option Value) (x : Int) (v : Value) : upd f x v x = some v := by simp [upd]
theorem upd_other (f : Int → Option Value) (x y : Int) (v : Value) (h : y ≠ x) : upd f x v y = f y := by simp [upd, h]

/-- Block b is a map that has what f has. -/
def Mp (w : World) (b n : Nat) (f : Int → Option Value) : Prop :=
  ∃ D, w.ownsMap Tryz.prog 3 RH b n D ∧ (∀ x, Maps.has D (.int .i64 x) = (f x).isSome) ∧ ∀ x v, f x = some v → ∀ zd, D.atKey (.int .i64 x) zd = .held v

theorem Mp.lt {w : World} {b n : Nat} {f : Int → Option Value} (h : Mp w b n f) : b < w.heap.size := by
  obtain ⟨D, h1, _⟩ := h; exact h1.lt
theorem Mp.mono {w : World} {b n n' : Nat} {f : Int → Option Value} (h : Mp w b n f) (hn : n ≤ n') : Mp w b n' f := by
  obtain ⟨D, h1, h2⟩ := h; exact ⟨D, h1.mono hn, h2⟩
theorem Mp.below {w w' : World} {b n B : Nat} {f : Int → Option Value} (h : Mp w b n f) (hb : Below B w w') (hB : b < B) : Mp w' b n f := by
  obtain ⟨D, ⟨es, clock, h0, r⟩, h2⟩ := h
  exact ⟨D, ⟨es, clock, (hb.block b hB).trans h0, r⟩, h2⟩
theorem Mp.alloc {w : World} {b n : Nat} {f : Int → Option Value} (h : Mp w b n f) (o : Obj) : Mp (w.alloc o) b n f := by
  obtain ⟨D, h1, h2⟩ := h; exact ⟨D, h1.alloc o, h2⟩
theorem Mp.kept {w w' : World} {b n : Nat} {row : Option Nat} {f : Int → Option Value} (h : Mp w b n f) (hg : w.grownBy w' row) (hne : some b ≠ row) : Mp w' b n f := by
  obtain ⟨D, h1, h2⟩ := h; exact ⟨D, h1.kept hg hne, h2⟩
theorem Mp.setCell {w : World} {b n : Nat} {f : Int → Option Value} (h : Mp w b n f) {a : Addr} (ha : b ≠ a.block) (u : Value) : Mp (w.setCell a u) b n f := by
  obtain ⟨D, h1, h2⟩ := h; exact ⟨D, h1.setCell ha u, h2⟩
theorem Mp.made (w : World) : Mp (w.alloc (.map #[] 0)) w.heap.size 0 (fun _ => none) :=
  ⟨.map [], World.ownsMap_made w _ _ _, fun x => rfl, fun x v h => by simp at h⟩

theorem keyM (x : Int) (h0 : -9223372036854775808 ≤ x) (h1 : x ≤ 9223372036854775807) : keyOf Tryz.prog 3 (.int .i64 x) = some (.int .i64 x) := keyOf_int_mk Tryz.underlying3 (WalkArith.wf_i64 (by omega))

theorem Mp.update {w : World} {b n : Nat} {f : Int → Option Value} {t e : TypeId} (h : Mp w b n f) (ht : Tryz.prog.underlying t = some (.map 3 e)) (hn : n ≤ 1000) (x : Int) (h0 : -9223372036854775808 ≤ x) (h1 : x ≤ 9223372036854775807) (v : Value) :
    ∃ w', (Instr.mapUpdate t (.map (some b)) (.int .i64 x) v).run Tryz.prog w = .ok () w' ∧ Mp w' b (n + 1) (upd f x v) ∧ w.grownBy w' (some b) := by
  obtain ⟨D, h2, h3, h4⟩ := h
  have hm := h2.isMap
  obtain ⟨w', hrun, r1, r2⟩ := h2.update klawM ht (by unfold maxLen; omega) (keyM x h0 h1) (show RH v = some (.held v, []) from rfl)
  refine ⟨w', hrun, ⟨_, r1, fun y => ?_, fun y u hy zd => ?_⟩, r2⟩
  · by_cases e : y = x
    · subst e; rw [upd_same, Maps.has_put_same hm (by simp [WideAt.IsKeyLit])]; rfl
    · rw [upd_other f x y v e, Maps.has_put_other (by simpa using e), h3]
  · by_cases e : y = x
    · subst e
      rw [upd_same] at hy
      cases hy
      exact Maps.atKey_put_same hm (by simp [WideAt.IsKeyLit]) _ _
    · rw [upd_other f x y v e] at hy
      rw [Maps.atKey_put_other (by simpa using e)]
      exact h4 y u hy zd

theorem Mp.look {w : World} {b n : Nat} {f : Int → Option Value} {t e : TypeId} (h : Mp w b n f) (ht : Tryz.prog.underlying t = some (.map 3 e)) {z : Value} (hz : (zeroValue e).run Tryz.prog w = .ok z w) (x : Int) (h0 : -9223372036854775808 ≤ x) (h1 : x ≤ 9223372036854775807) :
    (Instr.lookup t (.map (some b)) (.int .i64 x) false).run Tryz.prog w = .ok ((f x).getD z) w := by
  obtain ⟨D, h2, h3, h4⟩ := h
  obtain ⟨v, ps, hrun, hv⟩ := h2.lookup klawM ht hz (show RH z = some (.held z, []) from rfl) (keyM x h0 h1)
  rw [hrun]
  have e : DataW.held v = D.atKey (.int .i64 x) (.held z) := by
    unfold RH at hv
    simp only [Option.some.injEq, Prod.mk.injEq] at hv
    exact hv.1
  cases hf : f x with
  | none =>
    rw [Maps.atKey_of_not_has (by rw [h3, hf]; rfl)] at e
    cases e
    rfl
  | some u =>
    rw [h4 x u hf] at e
    cases e
    rfl
theorem Mp.lookOk {w : World} {b n : Nat} {f : Int → Option Value} {t e : TypeId} (h : Mp w b n f) (ht : Tryz.prog.underlying t = some (.map 3 e)) {z : Value} (hz : (zeroValue e).run Tryz.prog w = .ok z w) (x : Int) (h0 : -9223372036854775808 ≤ x) (h1 : x ≤ 9223372036854775807) :
    (Instr.lookup t (.map (some b)) (.int .i64 x) true).run Tryz.prog w = .ok (.tuple #[(f x).getD z, .bool (f x).isSome]) w := by
  obtain ⟨D, h2, h3, h4⟩ := h
  obtain ⟨v, ps, hrun, hv⟩ := h2.look_ok klawM ht hz (show RH z = some (.held z, []) from rfl) (keyM x h0 h1)
  rw [hrun, h3]
  have e : DataW.held v = D.atKey (.int .i64 x) (.held z) := by
    unfold RH at hv
    simp only [Option.some.injEq, Prod.mk.injEq] at hv
    exact hv.1
  cases hf : f x with
  | none =>
    rw [Maps.atKey_of_not_has (by rw [h3, hf]; rfl)] at e
    cases e
    rfl
  | some u =>
    rw [h4 x u hf] at e
    cases e
    rfl

/-- Its keys, sorted. -/
theorem sorted_sel {D : DataW Value} {w : World} {b n : Nat} (hown : w.ownsMap Tryz.prog 3 RH b n D) {f : Int → Option Value} (hh : ∀ x, Maps.has D (.int .i64 x) = (f x).isSome) (m : Nat) (hd : ∀ x, (f x).isSome = true → 0 ≤ x ∧ x < (m : Int)) (ss : List Int) (hp : ss.Perm (intKeys D)) :
    ss.mergeSort (fun x y => decide (x ≤ y)) = M.sel (fun k => (f (k : Int)).isSome) m := by
  have hr := M.sel_rise (fun k => (f (k : Int)).isSome) m
  have hc : CollectedI D (fun _ => false) (M.sel (fun k => (f (k : Int)).isSome) m) := by
    refine ⟨hr.imp fun {a b} h => by omega, fun x => ?_⟩
    rw [M.mem_sel, hh]
    constructor
    · rintro ⟨k, _, h2, rfl⟩; exact ⟨h2, rfl⟩
    · rintro ⟨h1, _⟩
      have := hd x h1
      exact ⟨x.toNat, by omega, by rw [Int.toNat_of_nonneg this.1]; exact h1, by omega⟩
  have hq := hc.perm hown klawM Tryz.underlying3 (fun _ => rfl)
  rw [show (fun x y : Int => decide (x ≤ y)) = leI from rfl, mergeSort_of_perm_i (hp.trans hq.symm)]
  exact List.mergeSort_of_pairwise (hr.imp fun {a b} h => by simp [leI]; omega)
theorem size_keys {D : DataW Value} {w : World} {b n : Nat} (hown : w.ownsMap Tryz.prog 3 RH b n D) : Maps.size D ≤ n := hown.size_le

section
variable {w : World} {ops : Array Oper} {rest : List Oper} {o : Oper} {a : Act} {Q : Exit → Act → World → Prop}
theorem wp_mp_set (hg : o.guard = none) (m x v : Operand) (t e : TypeId) (hop : o.op = Op.mapUpdate t m x v) (ht : Tryz.prog.underlying t = some (.map 3 e)) (b n : Nat) (f : Int → Option Value)
    (hm : a.eval m = .map (some b)) (h : Mp w b n f) (hn : n ≤ 1000) (key : Int) (val : Value) (hx : a.eval x = .int .i64 key) (hv : a.eval v = val) (h0 : -9223372036854775808 ≤ key) (h1 : key ≤ 9223372036854775807)
    (hK : ∀ w', Mp w' b (n + 1) (upd f key val) → w.grownBy w' (some b) → wpList Tryz.prog ops Q rest (a.put o.dst undef) w') : wpList Tryz.prog ops Q (o :: rest) a w := by
  refine wpList_plain hg fun K' hK' => ?_
  obtain ⟨w', hrun, r1, r2⟩ := h.update ht hn key h0 h1 val
  unfold Oper.wp
  simp [execOp, hop, hm, hx, hv, hrun, Result.andThen]
  exact hK' _ _ (hK w' r1 r2)
theorem wp_mp_get (hg : o.guard = none) (m x : Operand) (t e : TypeId) (hop : o.op = Op.lookup t m x false) (ht : Tryz.prog.underlying t = some (.map 3 e)) (z : Value) (hz : (zeroValue e).run Tryz.prog w = .ok z w) (b n : Nat) (f : Int → Option Value)
    (hm : a.eval m = .map (some b)) (h : Mp w b n f) (key : Int) (u : Value) (hu : (f key).getD z = u) (hx : a.eval x = .int .i64 key) (h0 : -9223372036854775808 ≤ key) (h1 : key ≤ 9223372036854775807)
    (hK : wpList Tryz.prog ops Q rest (a.put o.dst u) w) : wpList Tryz.prog ops Q (o :: rest) a w := by
  refine wpList_plain hg fun K' hK' => ?_
  have hrun := h.look ht hz key h0 h1
  rw [hu] at hrun
  unfold Oper.wp
  simp [execOp, hop, hm, hx, hrun, Result.andThen]
  exact hK' _ _ hK
theorem wp_mp_ok (hg : o.guard = none) (m x : Operand) (t e : TypeId) (hop : o.op = Op.lookup t m x true) (ht : Tryz.prog.underlying t = some (.map 3 e)) (z : Value) (hz : (zeroValue e).run Tryz.prog w = .ok z w) (b n : Nat) (f : Int → Option Value)
    (hm : a.eval m = .map (some b)) (h : Mp w b n f) (key : Int) (u : Value) (y : Bool) (hu : (f key).getD z = u) (hy : (f key).isSome = y) (hx : a.eval x = .int .i64 key) (h0 : -9223372036854775808 ≤ key) (h1 : key ≤ 9223372036854775807)
    (hK : wpList Tryz.prog ops Q rest (a.put o.dst (.tuple #[u, .bool y])) w) : wpList Tryz.prog ops Q (o :: rest) a w := by
  refine wpList_plain hg fun K' hK' => ?_
  have hrun := h.lookOk ht hz key h0 h1
  rw [hu, hy] at hrun
  unfold Oper.wp
  simp [execOp, hop, hm, hx, hrun, Result.andThen]
  exact hK' _ _ hK
end
end Go.Proofs.YtcgpgflnihjpiagGreat

/- Plain facts on changes: right ones, laid on rows, and three ways. -/
namespace Go.Proofs.YtcgpgflnihjpiagGreat.M

def cbad (ah : Int) (c : Chg) : Bool := decide (c.1 ≤ ah ∨ 99 < c.1 ∨ c.2.1 < -1 ∨ 996 < c.2.1 ∨ c.2.2 < -1 ∨ 996 < c.2.2 ∨ c.2.1 = c.2.2)
def fineF (ah : Int) : List Chg → Bool
  | [] => true
  | c :: t => !cbad ah c && fineF c.1 t
def fine (d : List Chg) : Bool := fineF (-1) d
theorem gdrop (l : List Chg) (k : Nat) (h : k < l.length) : l.drop k = l.getD k (0, 0, 0) :: l.drop (k + 1) := by
  rw [List.drop_eq_getElem_cons h]; simp [List.getD, h]
theorem gmem (l : List Chg) (k : Nat) (h : k < l.length) : l.getD k (0, 0, 0) ∈ l := by simp [List.getD, h]
theorem fineF_bad (ah : Int) (l : List Chg) (k : Nat) (h : k < l.length) (x y z : Int) (e : l.getD k (0, 0, 0) = (x, y, z)) (hb : x ≤ ah ∨ 99 < x ∨ y < -1 ∨ 996 < y ∨ z < -1 ∨ 996 < z ∨ y = z) : fineF ah (l.drop k) = false := by
  rw [gdrop l k h, e, fineF, cbad, decide_eq_true hb]; rfl
theorem fineF_good (ah : Int) (l : List Chg) (k : Nat) (h : k < l.length) (x y z : Int) (e : l.getD k (0, 0, 0) = (x, y, z)) (hb : ah < x ∧ x ≤ 99 ∧ -1 ≤ y ∧ y ≤ 996 ∧ -1 ≤ z ∧ z ≤ 996 ∧ y ≠ z) : fineF ah (l.drop k) = fineF x (l.drop (k + 1)) := by
  rw [gdrop l k h, e, fineF, cbad, decide_eq_false (by show ¬ (x ≤ ah ∨ 99 < x ∨ y < -1 ∨ 996 < y ∨ z < -1 ∨ 996 < z ∨ y = z); omega)]; rfl
theorem fineF_end (ah : Int) (l : List Chg) (k : Nat) (h : l.length ≤ k) : fineF ah (l.drop k) = true := by
  rw [List.drop_eq_nil_of_le h]; rfl
/-- What right changes are. -/
def Fine (ah : Int) (d : List Chg) : Prop := (∀ c ∈ d, ah < c.1 ∧ c.1 ≤ 99 ∧ -1 ≤ c.2.1 ∧ c.2.1 ≤ 996 ∧ -1 ≤ c.2.2 ∧ c.2.2 ≤ 996 ∧ c.2.1 ≠ c.2.2) ∧ d.Pairwise (fun a b => a.1 < b.1)
theorem fineF_iff (ah : Int) (d : List Chg) : fineF ah d = true ↔ Fine ah d := by
  unfold Fine
  induction d generalizing ah with
  | nil => simp [fineF]
  | cons c t ih =>
    rw [fineF, Bool.and_eq_true, ih]
    have hc : (!cbad ah c) = true ↔ ah < c.1 ∧ c.1 ≤ 99 ∧ -1 ≤ c.2.1 ∧ c.2.1 ≤ 996 ∧ -1 ≤ c.2.2 ∧ c.2.2 ≤ 996 ∧ c.2.1 ≠ c.2.2 := by
      unfold cbad
      rw [Bool.not_eq_true', decide_eq_false_iff_not]
      omega
    rw [hc]
    constructor
    · rintro ⟨h1, h2, h3⟩
      refine ⟨fun q hq => ?_, List.pairwise_cons.2 ⟨fun q hq => (h2 q hq).1, h3⟩⟩
      rcases List.mem_cons.1 hq with rfl | hq
      · exact h1
      · have := h2 q hq; omega
    · rintro ⟨h1, h2⟩
      have h3 := List.pairwise_cons.1 h2
      exact ⟨h1 c (by simp), fun q hq => ⟨h3.1 q hq, (h1 q (by simp [hq])).2⟩, h3.2⟩
theorem fine_iff (d : List Chg) : fine d = true ↔ Fine (-1) d := fineF_iff (-1) d
theorem Fine.len {ah : Int} {d : List Chg} (h : Fine ah d) (h0 : ah ≤ 99) : (d.length : Int) ≤ 99 - ah := by
  induction d generalizing ah with
  | nil => simp; omega
  | cons c t ih =>
    have hc := h.1 c (by simp)
    have h3 := List.pairwise_cons.1 h.2
    have := ih (ah := c.1) ⟨fun q hq => ⟨h3.1 q hq, (h.1 q (by simp [hq])).2⟩, h3.2⟩ hc.2.1
    rw [List.length_cons]
    omega

/-- Has one's key not its Old? -/
def clashF (l : List (Int × Int)) (d : List Chg) : Bool := d.any (fun c => decide (find c.1 l ≠ c.2.1))
/-- The table in which the changes are laid on another. -/
def tab (f : Int → Int) (d : List Chg) : Int → Int := d.foldl (fun f c k => if k = c.1 then c.2.2 else f k) f
theorem tab_snoc (f : Int → Int) (d : List Chg) (c : Chg) (k : Int) : tab f (d ++ [c]) k = if k = c.1 then c.2.2 else tab f d k := by
  unfold tab; rw [List.foldl_append]; rfl
theorem tab_none (f : Int → Int) (d : List Chg) (k : Int) (h : ∀ c ∈ d, c.1 ≠ k) : tab f d k = f k := by
  induction d generalizing f with
  | nil => rfl
  | cons c t ih =>
    have e : tab f (c :: t) k = tab (fun k => if k = c.1 then c.2.2 else f k) t k := rfl
    rw [e, ih _ fun q hq => h q (by simp [hq]), if_neg (fun e => h c (by simp) e.symm)]
theorem tab_mem (f : Int → Int) (d : List Chg) (hd : d.Pairwise (fun a b => a.1 < b.1)) (c : Chg) (hc : c ∈ d) : tab f d c.1 = c.2.2 := by
  induction d generalizing f with
  | nil => simp at hc
  | cons q t ih =>
    have e : tab f (q :: t) c.1 = tab (fun k => if k = q.1 then q.2.2 else f k) t c.1 := rfl
    have h2 := List.pairwise_cons.1 hd
    rw [e]
    rcases List.mem_cons.1 hc with rfl | hc
    · rw [tab_none _ t c.1 (fun r hr => by have := h2.1 r hr; omega), if_pos rfl]
    · exact ih _ h2.2 hc
theorem tab_cases (f : Int → Int) (d : List Chg) (hd : d.Pairwise (fun a b => a.1 < b.1)) (k : Int) : (∃ c ∈ d, c.1 = k ∧ tab f d k = c.2.2) ∨ ((∀ c ∈ d, c.1 ≠ k) ∧ tab f d k = f k) := by
  by_cases h : ∃ c ∈ d, c.1 = k
  · obtain ⟨c, hc, e⟩ := h
    exact Or.inl ⟨c, hc, e, by rw [← e]; exact tab_mem f d hd c hc⟩
  · exact Or.inr ⟨fun c hc e => h ⟨c, hc, e⟩, tab_none f d k fun c hc e => h ⟨c, hc, e⟩⟩

/-- The rows of a table. -/
def ofTab (f : Int → Int) : List (Int × Int) := foldTo (fun i => f (i : Int)) 100
theorem foldTo_congr (f g : Nat → Int) (n : Nat) (h : ∀ i, i < n → f i = g i) : foldTo f n = foldTo g n := by
  induction n with
  | zero => rfl
  | succ n ih => rw [foldTo, foldTo, h n (by omega), ih fun i hi => h i (by omega)]
theorem foldTo_mono (f g : Nat → Int) (n : Nat) (h : ∀ i, i < n → f i ≠ -1 → g i ≠ -1) : (foldTo f n).length ≤ (foldTo g n).length := by
  induction n with
  | zero => simp [foldTo]
  | succ n ih =>
    have i1 := ih fun i hi => h i (by omega)
    have i2 := h n (by omega)
    rw [foldTo, foldTo]
    by_cases e : f n = -1
    · rw [if_pos e]; split
      · exact i1
      · simp; omega
    · rw [if_neg e, if_neg (i2 e)]; simp; exact i1
theorem find_foldTo (f : Nat → Int) (n i : Nat) : find (i : Int) (foldTo f n) = if i < n then f i else -1 := by
  by_cases hi : i < n
  · rw [if_pos hi]
    by_cases hne : f i = -1
    · rw [hne]
      refine find_none _ _ fun r hr e => ?_
      obtain ⟨j, hj, hn, rfl⟩ := (mem_foldTo f n r).1 hr
      have : j = i := by have : (j : Int) = (i : Int) := e; omega
      subst this
      exact hn hne
    · exact find_mem _ _ (foldTo_pair f n) ((i : Int), f i) ((mem_foldTo f n _).2 ⟨i, hi, hne, rfl⟩) rfl
  · rw [if_neg hi]
    refine find_none _ _ fun r hr e => ?_
    obtain ⟨j, hj, hn, rfl⟩ := (mem_foldTo f n r).1 hr
    have : (j : Int) = (i : Int) := e
    omega
theorem ofTab_ok (f : Int → Int) (h : ∀ i : Nat, i < 100 → -1 ≤ f i ∧ f i ≤ 996) : Ok (ofTab f) := by
  refine ⟨fun r hr => ?_, foldTo_pair _ 100⟩
  obtain ⟨i, hi, hne, rfl⟩ := (mem_foldTo _ 100 r).1 hr
  have := h i hi
  refine ⟨by show 0 ≤ (i : Int); omega, by show (i : Int) ≤ 99; omega, ?_, this.2⟩
  show 0 ≤ f (i : Int)
  omega
theorem find_out {l : List (Int × Int)} (ok : Ok l) (k : Int) (h : k < 0 ∨ 99 < k) : find k l = -1 :=
  find_none k l fun r hr e => by have := ok.1 r hr; omega
/-- Rows are the rows of their own table. -/
theorem ofTab_self {R : List (Int × Int)} (ok : Ok R) (f : Int → Int) (hf : ∀ i : Nat, i < 100 → f i = find i R) : ofTab f = R := by
  have ok2 : Ok (ofTab f) := ofTab_ok f fun i hi => by rw [hf i hi]; exact find_range ok
  refine ext _ _ ok2 ok fun k => ?_
  by_cases hk : 0 ≤ k ∧ k ≤ 99
  · obtain ⟨i, rfl⟩ := Int.eq_ofNat_of_zero_le hk.1
    unfold ofTab
    rw [find_foldTo, if_pos (by omega), hf i (by omega)]
  · rw [find_out ok2 k (by omega), find_out ok k (by omega)]
theorem ofTab_congr (f g : Int → Int) (h : ∀ i : Nat, i < 100 → f i = g i) : ofTab f = ofTab g := foldTo_congr _ _ _ h
theorem find_ofTab (f : Int → Int) (i : Nat) (hi : i < 100) : find (i : Int) (ofTab f) = f i := by unfold ofTab; rw [find_foldTo, if_pos hi]

/-- The error of Patch, and its rows. -/
def patchE (l : List (Int × Int)) (d : List Chg) : Int :=
  if chk l ≠ 0 then chk l else if fine d = false then 1 else if clashF l d = true then 7 else if 40 < (ofTab (tab (fun k => find k l) d)).length then 2 else 0
def patchV (l : List (Int × Int)) (d : List Chg) : List (Int × Int) := if patchE l d = 0 then ofTab (tab (fun k => find k l) d) else []

/-- What goes, and what is put. -/
def gone (c : Chg) : Bool := decide (c.2.2 = -1)
def t1 (f : Int → Int) (d : List Chg) : Int → Int := tab f (d.filter gone)
theorem t1_le (f : Int → Int) (d e : List Chg) (hd : d.Pairwise (fun a b => a.1 < b.1)) (he : e.Sublist d) (k : Int) (h : tab (t1 f d) (e.filter (fun c => !gone c)) k ≠ -1) : tab f d k ≠ -1 := by
  have hdg : (d.filter gone).Pairwise (fun a b => a.1 < b.1) := hd.sublist List.filter_sublist
  have heg : (e.filter (fun c => !gone c)).Pairwise (fun a b => a.1 < b.1) := (hd.sublist he).sublist List.filter_sublist
  rcases tab_cases (t1 f d) _ heg k with ⟨c, hc, e1, e2⟩ | ⟨hno, e2⟩
  · have hcm := List.mem_filter.1 hc
    have hcd : c ∈ d := he.subset hcm.1
    rw [← e1, tab_mem f d hd c hcd]
    have := hcm.2
    unfold gone at this
    simpa using this
  · rw [e2] at h
    rcases tab_cases f _ hdg k with ⟨c, hc, e1, e3⟩ | ⟨hno2, e3⟩
    · have hg := (List.mem_filter.1 hc).2
      unfold gone at hg
      unfold t1 at h
      rw [e3] at h
      simp at hg
      exact absurd hg h
    · rcases tab_cases f d hd k with ⟨c, hc, e1, e4⟩ | ⟨_, e4⟩
      · rw [e4]
        intro hn
        exact hno2 c (List.mem_filter.2 ⟨hc, by unfold gone; simpa using hn⟩) e1
      · rw [e4]; unfold t1 at h; rw [e3] at h; exact h
theorem t1_all (f : Int → Int) (d : List Chg) (hd : d.Pairwise (fun a b => a.1 < b.1)) (k : Int) : tab (t1 f d) (d.filter (fun c => !gone c)) k = tab f d k := by
  have hdg : (d.filter gone).Pairwise (fun a b => a.1 < b.1) := hd.sublist List.filter_sublist
  have heg : (d.filter (fun c => !gone c)).Pairwise (fun a b => a.1 < b.1) := hd.sublist List.filter_sublist
  rcases tab_cases f d hd k with ⟨c, hc, e1, e2⟩ | ⟨hno, e2⟩
  · rw [e2]
    cases hg : gone c with
    | true =>
      have h1 : ∀ q ∈ d.filter (fun c => !gone c), q.1 ≠ k := fun q hq e => by
        have hq2 := List.mem_filter.1 hq
        have h3 := tab_mem f d hd q hq2.1
        have h4 := tab_mem f d hd c hc
        rw [e] at h3
        rw [e1] at h4
        have h5 : q.2.2 = c.2.2 := h3.symm.trans h4
        have h6 := hq2.2
        unfold gone at h6 hg
        rw [h5] at h6
        simp at h6 hg
        exact h6 hg
      rw [tab_none _ _ k h1, ← e1]
      exact tab_mem f _ hdg c (List.mem_filter.2 ⟨hc, hg⟩)
    | false =>
      rw [← e1]
      exact tab_mem _ _ heg c (List.mem_filter.2 ⟨hc, by simp [hg]⟩)
  · rw [e2, tab_none _ _ k (fun q hq => hno q (List.mem_filter.1 hq).1)]
    unfold t1
    exact tab_none _ _ k (fun q hq => hno q (List.mem_filter.1 hq).1)
theorem filter_take (d : List Chg) (p : Chg → Bool) (k : Nat) (h : k < d.length) : (d.take (k + 1)).filter p = (d.take k).filter p ++ if p (d.getD k (0, 0, 0)) = true then [d.getD k (0, 0, 0)] else [] := by
  rw [List.take_succ_eq_append_getElem h, List.filter_append]
  have e : d.getD k (0, 0, 0) = d[k] := by simp [List.getD, h]
  rw [e]
  cases hp : p d[k] <;> simp [hp]

/-! ### three ways -/
/-- What comes of a key. -/
def mval (x y z : Int) : Int := if y = z then y else if y = x then z else y
def mclash (x y z : Int) : Bool := decide (y ≠ z ∧ y ≠ x ∧ z ≠ x)
def mtab (b l m : List (Int × Int)) (k : Int) : Int := mval (find k b) (find k l) (find k m)
def mrows (b l m : List (Int × Int)) : List (Int × Int) := ofTab (mtab b l m)
def mkeys (b l m : List (Int × Int)) : List Int := sel (fun k => mclash (find k b) (find k l) (find k m)) 100
def mergeE (b l m : List (Int × Int)) : Int :=
  if chk b ≠ 0 then chk b else if chk l ≠ 0 then chk l else if chk m ≠ 0 then chk m else if 40 < (mrows b l m).length then 2 else 0

/-- What the second alone has changed. -/
def aloneC (b l m : List (Int × Int)) (x : Int) : Option Chg := if find x b = find x l then some (x, find x b, find x m) else none
def ckeys (b m : List (Int × Int)) : List Int := sel (fun k => decide (find k b ≠ find k m)) 100
def alone (b l m : List (Int × Int)) : List Chg := (ckeys b m).filterMap (aloneC b l m)
theorem mem_alone (b l m : List (Int × Int)) (c : Chg) : c ∈ alone b l m ↔ ∃ k : Nat, k < 100 ∧ find k b ≠ find k m ∧ find k b = find k l ∧ c = ((k : Int), find k b, find k m) := by
  unfold alone ckeys
  rw [List.mem_filterMap]
  constructor
  · rintro ⟨x, hx, hc⟩
    obtain ⟨k, h1, h2, rfl⟩ := (mem_sel _ _ _).1 hx
    unfold aloneC at hc
    split at hc
    · rename_i h3
      exact ⟨k, h1, by simpa using h2, h3, by simpa using hc.symm⟩
    · simp at hc
  · rintro ⟨k, h1, h2, h3, rfl⟩
    exact ⟨(k : Int), (mem_sel _ _ _).2 ⟨k, h1, by simpa using h2, rfl⟩, by unfold aloneC; rw [if_pos h3]⟩
theorem alone_rise (b l m : List (Int × Int)) : (alone b l m).Pairwise (fun a b => a.1 < b.1) := by
  unfold alone
  rw [List.pairwise_filterMap]
  refine (sel_rise _ 100).imp fun {x y} hxy p hp q hq => ?_
  unfold aloneC at hp hq
  split at hp <;> split at hq <;> simp at hp hq
  subst hp hq
  exact hxy
theorem alone_fine {b l m : List (Int × Int)} (hb : Ok b) (hm : Ok m) : Fine (-1) (alone b l m) := by
  refine ⟨fun c hc => ?_, alone_rise b l m⟩
  obtain ⟨k, h1, h2, h3, rfl⟩ := (mem_alone b l m c).1 hc
  have r1 := find_range (key := (k : Int)) hb
  have r2 := find_range (key := (k : Int)) hm
  exact ⟨by show -1 < (k : Int); omega, by show (k : Int) ≤ 99; omega, r1.1, r1.2, r2.1, r2.2, h2⟩
theorem alone_clash (b l m : List (Int × Int)) : clashF l (alone b l m) = false := by
  unfold clashF
  rw [List.any_eq_false]
  intro c hc
  obtain ⟨k, h1, h2, h3, rfl⟩ := (mem_alone b l m c).1 hc
  simp [h3]
theorem alone_tab (b l m : List (Int × Int)) (k : Nat) (hk : k < 100) : tab (fun x => find x l) (alone b l m) (k : Int) = mtab b l m k := by
  unfold mtab mval
  rcases tab_cases (fun x => find x l) _ (alone_rise b l m) (k : Int) with ⟨c, hc, e1, e2⟩ | ⟨hno, e2⟩
  · obtain ⟨j, h1, h2, h3, rfl⟩ := (mem_alone b l m c).1 hc
    have : (j : Int) = (k : Int) := e1
    have : j = k := by omega
    subst this
    rw [e2, if_neg (by omega), if_pos h3.symm]
  · rw [e2]
    by_cases h1 : find (k : Int) l = find (k : Int) m
    · rw [if_pos h1]
    · rw [if_neg h1]
      by_cases h2 : find (k : Int) l = find (k : Int) b
      · exact absurd rfl (hno _ ((mem_alone b l m _).2 ⟨k, hk, by omega, h2.symm, rfl⟩))
      · rw [if_neg h2]
theorem alone_patch {b l m : List (Int × Int)} (hb : chk b = 0) (hl : chk l = 0) (hm : chk m = 0) : patchE l (alone b l m) = mergeE b l m ∧ ofTab (tab (fun k => find k l) (alone b l m)) = mrows b l m := by
  have e : ofTab (tab (fun k => find k l) (alone b l m)) = mrows b l m := ofTab_congr _ _ fun i hi => alone_tab b l m i hi
  refine ⟨?_, e⟩
  unfold patchE mergeE
  rw [e, hl, hb, hm, (fine_iff _).2 (alone_fine ((chk_zero b).1 hb).2 ((chk_zero m).1 hm).2), alone_clash]
  simp
/-- What clashes is among what the second has changed. -/
theorem ckeys_filter (b l m : List (Int × Int)) (n : Nat) : (sel (fun k => decide (find (k : Int) b ≠ find (k : Int) m)) n).filter (fun x => mclash (find x b) (find x l) (find x m)) = sel (fun k => mclash (find k b) (find k l) (find k m)) n := by
  induction n with
  | zero => rfl
  | succ n ih =>
    rw [sel, sel]
    by_cases h : find (n : Int) b ≠ find (n : Int) m
    · rw [if_pos (by simpa using h), List.filter_append, ih]
      cases hc : mclash (find (n : Int) b) (find (n : Int) l) (find (n : Int) m)
      · rw [if_neg (by simp)]; simp [hc]
      · rw [if_pos rfl]; simp [hc]
    · rw [if_neg (by simpa using h), ih, if_neg]
      unfold mclash
      simp at h ⊢
      omega
end Go.Proofs.YtcgpgflnihjpiagGreat.M

/- Changes in memory, and changes appended to a row of the call's own. -/
namespace Go.Proofs.YtcgpgflnihjpiagGreat
open Go.RowKit

/-- The slice at a, of n changes, holds the changes l. -/
def Rc (w : World) (a : Option Addr) (n : Nat) (l : List M.Chg) : Prop :=
  l.length = n ∧ (n = 0 ∨ ∃ b off, a = some ⟨b, off, none⟩ ∧ b < w.heap.size ∧ ∀ i, i < n → w.cell? ⟨b, off + i * 3, none⟩ = some (.int .i64 (l.getD i (0, 0, 0)).1) ∧ w.cell? ⟨b, off + i * 3 + 1, none⟩ = some (.int .i64 (l.getD i (0, 0, 0)).2.1) ∧ w.cell? ⟨b, off + i * 3 + 2, none⟩ = some (.int .i64 (l.getD i (0, 0, 0)).2.2))
theorem Rc.below {w w' : World} {a : Option Addr} {n : Nat} {l : List M.Chg} (h : Rc w a n l) {B : Nat} (hb : Below B w w') (hB : w.heap.size ≤ B) : Rc w' a n l := by
  obtain ⟨h1, h2⟩ := h
  refine ⟨h1, ?_⟩
  rcases h2 with h2 | ⟨b, off, ha, hlt, hc⟩
  · exact Or.inl h2
  · refine Or.inr ⟨b, off, ha, Nat.lt_of_lt_of_le hlt hb.size, fun i hi => ?_⟩
    rw [hb.cell (p := ⟨b, off + i * 3, none⟩) (by show b < B; omega), hb.cell (p := ⟨b, off + i * 3 + 1, none⟩) (by show b < B; omega), hb.cell (p := ⟨b, off + i * 3 + 2, none⟩) (by show b < B; omega)]
    exact hc i hi
theorem Rc.cases {w : World} {a : Option Addr} {n : Nat} {l : List M.Chg} (h : Rc w a n l) : (n = 0 ∧ l = []) ∨ ∃ b off, a = some ⟨b, off, none⟩ ∧ 0 < n ∧ l.length = n ∧ b < w.heap.size ∧ ∀ i, i < n → w.cell? ⟨b, off + i * 3, none⟩ = some (.int .i64 (l.getD i (0, 0, 0)).1) ∧ w.cell? ⟨b, off + i * 3 + 1, none⟩ = some (.int .i64 (l.getD i (0, 0, 0)).2.1) ∧ w.cell? ⟨b, off + i * 3 + 2, none⟩ = some (.int .i64 (l.getD i (0, 0, 0)).2.2) := by
  obtain ⟨h1, h2⟩ := h
  by_cases hn : n = 0
  · exact Or.inl ⟨hn, List.eq_nil_of_length_eq_zero (by omega)⟩
  · rcases h2 with h2 | ⟨b, off, ha, hlt, hc⟩
    · exact absurd h2 hn
    · exact Or.inr ⟨b, off, ha, by omega, h1, hlt, hc⟩

/-- A change as a value. -/
def cval (c : M.Chg) : Value := .agg #[.int .i64 c.1, .int .i64 c.2.1, .int .i64 c.2.2]
def encC (l : List M.Chg) : List Value := l.flatMap fun c => [.int .i64 c.1, .int .i64 c.2.1, .int .i64 c.2.2]
theorem encC_length (l : List M.Chg) : (encC l).length = l.length * 3 := by
  induction l with
  | nil => rfl
  | cons r t ih => simp [encC] at ih ⊢; omega
theorem encC_append (a b : List M.Chg) : encC (a ++ b) = encC a ++ encC b := by simp [encC]
theorem encC_cons (r : M.Chg) (t : List M.Chg) : encC (r :: t) = .int .i64 r.1 :: .int .i64 r.2.1 :: .int .i64 r.2.2 :: encC t := by simp [encC]
theorem encC_at (l : List M.Chg) (i : Nat) (h : i < l.length) : (encC l)[i * 3]? = some (.int .i64 (l.getD i (0, 0, 0)).1) ∧ (encC l)[i * 3 + 1]? = some (.int .i64 (l.getD i (0, 0, 0)).2.1) ∧ (encC l)[i * 3 + 2]? = some (.int .i64 (l.getD i (0, 0, 0)).2.2) := by
  induction l generalizing i with
  | nil => simp at h
  | cons r t ih =>
    rw [encC_cons]
    cases i with
    | zero => simp
    | succ i =>
      have := ih i (by simpa using h)
      rw [show (i + 1) * 3 = i * 3 + 1 + 1 + 1 by omega]
      simpa using this
theorem encC_one (l : List M.Chg) : ∀ u ∈ encC l, u.oneCell' = true := by
  intro u hu
  simp only [encC, List.mem_flatMap] at hu
  obtain ⟨r, _, h⟩ := hu
  simp at h
  rcases h with rfl | rfl | rfl <;> rfl
/-- The changes l lie in a row of the call's own. -/
def OwnC (w : World) (base : Nat) (v : Value) (l : List M.Chg) : Prop := w.ownsRow base 64 3 v l.length (encC l)
theorem OwnC.nil (w : World) (base : Nat) : OwnC w base (.slice none 0 0) [] := World.ownsRow_nil _ _ _ _
theorem OwnC.mono {w : World} {base base' : Nat} {v : Value} {l : List M.Chg} (h : OwnC w base v l) (hb : base' ≤ base) : OwnC w base' v l := by
  obtain ⟨h1, h2⟩ := h
  refine ⟨h1, ?_⟩
  rcases h2 with h2 | ⟨g, cap, cur, hv, hg, r⟩
  · exact Or.inl h2
  · exact Or.inr ⟨g, cap, cur, hv, Nat.le_trans hb hg, r⟩
theorem OwnC.below {w w' : World} {base : Nat} {v : Value} {l : List M.Chg} (h : OwnC w base v l) (hb : Below w.heap.size w w') : OwnC w' base v l := by
  obtain ⟨h1, h2⟩ := h
  refine ⟨h1, ?_⟩
  rcases h2 with h2 | ⟨g, cap, cur, hv, hg, hh, r⟩
  · exact Or.inl h2
  · exact Or.inr ⟨g, cap, cur, hv, hg, (hb.block g (Array.getElem?_eq_some_iff.1 hh).1).trans hh, r⟩
theorem OwnC.rc {w : World} {base : Nat} {v : Value} {l : List M.Chg} (h : OwnC w base v l) : ∃ a cap, v = .slice a l.length cap ∧ Rc w a l.length l ∧ l.length ≤ cap ∧ cap ≤ maxLen := by
  have h0 := h
  obtain ⟨h1, h2⟩ := h
  rcases h2 with ⟨rfl, hn⟩ | ⟨g, cap, cur, rfl, hb, hh, hc, hm, hs, hx⟩
  · exact ⟨none, 0, by rw [hn], ⟨rfl, Or.inl hn⟩, by omega, by simp [maxLen]⟩
  · refine ⟨_, cap, rfl, ⟨rfl, ?_⟩, hc, hm⟩
    have hlt : g < w.heap.size := (Array.getElem?_eq_some_iff.1 hh).1
    refine Or.inr ⟨g, 0, rfl, hlt, fun i hi => ?_⟩
    have e := encC_at l i hi
    rw [World.ownsRow.cellAt h0 (0 + i * 3) (by omega), World.ownsRow.cellAt h0 (0 + i * 3 + 1) (by omega), World.ownsRow.cellAt h0 (0 + i * 3 + 2) (by omega), Nat.zero_add]
    exact e
/-- Rows of two kinds lie in two blocks. -/
theorem apart_rows {w : World} {b1 b2 : Nat} {t1 t2 : TypeId} {s1 s2 n1 n2 : Nat} {v1 v2 : Value} {x1 x2 : List Value} (h1 : w.ownsRow b1 t1 s1 v1 n1 x1) (h2 : w.ownsRow b2 t2 s2 v2 n2 x2) (hne : t1 ≠ t2) : ∀ k, v1.ownBlock = some k → v2.ownBlock ≠ some k := by
  intro k e1 e2
  obtain ⟨_, k1⟩ := h1
  obtain ⟨_, k2⟩ := h2
  rcases k1 with ⟨rfl, _⟩ | ⟨g, cap, cur, rfl, _, hh, _⟩
  · simp [Value.ownBlock] at e1
  · rcases k2 with ⟨rfl, _⟩ | ⟨g2, cap2, cur2, rfl, _, hh2, _⟩
    · simp [Value.ownBlock] at e2
    · simp [Value.ownBlock] at e1 e2
      subst e1
      rw [e2] at hh2
      rw [hh2] at hh
      simp at hh
      exact hne hh.2.symm
theorem keep_row {w w' : World} {b : Nat} {t : TypeId} {s n : Nat} {v : Value} {x : List Value} (h : w.ownsRow b t s v n x) (hk : ∀ k, k < w.heap.size → v.ownBlock = some k → w'.heap[k]? = w.heap[k]?) : w'.ownsRow b t s v n x := by
  obtain ⟨h1, h2⟩ := h
  refine ⟨h1, ?_⟩
  rcases h2 with h2 | ⟨g, cap, cur, hv, hg, hh, r⟩
  · exact Or.inl h2
  · exact Or.inr ⟨g, cap, cur, hv, hg, (hk g (Array.getElem?_eq_some_iff.1 hh).1 (by rw [hv]; rfl)).trans hh, r⟩

theorem infoChange : (Tryz.prog.info? 64).map (fun i => (i.zero, i.size, i.bytes)) = some (some (.agg #[.int .i64 0, .int .i64 0, .int .i64 0]), 3, 24) := by kernel_rfl
theorem append_rc {w : World} {ops : Array Oper} {rest : List Oper} {o : Oper} {a : Act} {Q : Exit → Act → World → Prop} (hgd : o.guard = none) (s x : Operand)
    (ho : o.op = .call { callee := .builtin .append, args := #[s, x], argTypes := #[28, 28] })
    (base : Nat) (v : Value) (l : List M.Chg) (hs : a.eval s = v) (hown : OwnC w base v l)
    (b m c : Nat) (l2 : List M.Chg) (hx : a.eval x = .slice (some ⟨b, 0, none⟩) m c) (hl2 : l2.length = m)
    (hc : ∀ i, i < m → w.cell? ⟨b, 0 + i * 3, none⟩ = some (.int .i64 (l2.getD i (0, 0, 0)).1) ∧ w.cell? ⟨b, 0 + i * 3 + 1, none⟩ = some (.int .i64 (l2.getD i (0, 0, 0)).2.1) ∧ w.cell? ⟨b, 0 + i * 3 + 2, none⟩ = some (.int .i64 (l2.getD i (0, 0, 0)).2.2))
    (hbig : l.length + m ≤ 1000000) (hbase : base ≤ w.heap.size)
    (h : ∀ v' w', OwnC w' base v' (l ++ l2) → Below base w w' → (∀ k, k < w.heap.size → v.ownBlock ≠ some k → w'.heap[k]? = w.heap[k]?) → wpList Tryz.prog ops Q rest (a.put o.dst v') w') : wpList Tryz.prog ops Q (o :: rest) a w := by
  obtain ⟨i0, hi, hz0, hz1, hz2⟩ := info_parts infoChange
  have hnews : ∀ j u, (encC l2)[j]? = some u → w.cell? ((⟨b, 0, none⟩ : Addr).add j) = some u := by
    intro j u hj
    have hjl : j < (encC l2).length := (List.getElem?_eq_some_iff.1 hj).1
    rw [encC_length, hl2] at hjl
    have hi2 : j / 3 < m := by omega
    have e := encC_at l2 (j / 3) (by omega)
    have q := hc (j / 3) hi2
    rw [Addr.add_lit]
    have h3 : j % 3 = 0 ∨ j % 3 = 1 ∨ j % 3 = 2 := by omega
    rcases h3 with h3 | h3 | h3
    · have ej : j = j / 3 * 3 := by omega
      rw [ej] at hj ⊢
      rw [e.1] at hj
      rw [← hj]; exact q.1
    · have ej : j = j / 3 * 3 + 1 := by omega
      rw [ej] at hj ⊢
      rw [e.2.1] at hj
      rw [← hj, ← Nat.add_assoc]; exact q.2.1
    · have ej : j = j / 3 * 3 + 2 := by omega
      rw [ej] at hj ⊢
      rw [e.2.2] at hj
      rw [← hj, ← Nat.add_assoc]; exact q.2.2
  refine wpList_append_own _ hgd s x 28 ho base 64 i0 (.agg #[.int .i64 0, .int .i64 0, .int .i64 0]) 3 24 Tryz.underlying28 hi hz0 hz1 hz2 rfl (by decide) v l.length (encC l) hs hown ⟨b, 0, none⟩ m c (encC l2) hx (by rw [encC_length, hl2]) hnews (encC_one l2)
    (by simp only [maxLen]; omega) (by omega) hbase ?_
  intro v' w' h1 h2 _
  refine h v' w' ?_ ((Below.refl _ _).grown h2 hbase fun k hk => (World.ownsRow.lt hown k hk).1) (fun k hk hne => h2.block k hk (fun e => hne e.symm))
  unfold OwnC
  rw [encC_append, List.length_append, hl2]
  exact h1
theorem rc_one (w : World) (x y z : Int) : ∀ i, i < 1 → (w.alloc (.cells #[.int .i64 x, .int .i64 y, .int .i64 z] 64)).cell? ⟨w.heap.size, 0 + i * 3, none⟩ = some (.int .i64 (([(x, y, z)] : List M.Chg).getD i (0, 0, 0)).1) ∧ (w.alloc (.cells #[.int .i64 x, .int .i64 y, .int .i64 z] 64)).cell? ⟨w.heap.size, 0 + i * 3 + 1, none⟩ = some (.int .i64 (([(x, y, z)] : List M.Chg).getD i (0, 0, 0)).2.1) ∧ (w.alloc (.cells #[.int .i64 x, .int .i64 y, .int .i64 z] 64)).cell? ⟨w.heap.size, 0 + i * 3 + 2, none⟩ = some (.int .i64 (([(x, y, z)] : List M.Chg).getD i (0, 0, 0)).2.2) := by
  intro i hi
  obtain rfl : i = 0 := by omega
  refine ⟨?_, ?_, ?_⟩ <;> simp [go_sem]
end Go.Proofs.YtcgpgflnihjpiagGreat

/- log.Write. -/
namespace Go.Proofs.YtcgpgflnihjpiagGreat
open Go.RowKit

/-- One more than a number, as the machine adds it: it can stand, or can not, alike. -/
theorem pnS_wrap (st : M.By × Bool) {n : Int} (h : M.inI n) : M.pnS true st (IntKind.i64.wrap (n + 1)) = M.pnS true st (n + 1) := by
  obtain ⟨h1, h2⟩ := h
  by_cases h3 : n = 9223372036854775807
  · subst h3
    have e : IntKind.i64.wrap (9223372036854775807 + 1) = -9223372036854775808 := by rw [IntKind.wrap_i64]; omega
    rw [e]
    unfold M.pnS M.pnB
    simp
  · have e : IntKind.i64.wrap (n + 1) = n + 1 := by rw [IntKind.wrap_i64]; omega
    rw [e]
theorem wC_wrap (st : M.By × Bool) (c : M.Chg) (h : M.inI c.2.1 ∧ M.inI c.2.2) : M.pnL true (M.pnL false st [c.1]) [IntKind.i64.wrap (c.2.1 + 1), IntKind.i64.wrap (c.2.2 + 1)] = M.wC st c := by
  show M.pnS true (M.pnS true _ _) _ = M.pnS true (M.pnS true _ _) _
  rw [pnS_wrap _ h.1, pnS_wrap _ h.2]

set_option maxRecDepth 100000 in
set_option maxHeartbeats 8000000 in
theorem write_any (x : M.Act) (a : Option Addr) (m cap : Nat) (w : World) (hrc : Rc w a m x.chs) (hm : m ≤ 9223372036854775807) (h1 : x.one.length ≤ 9223372036854775807) (h2 : x.two.length ≤ 9223372036854775807) (hrg : ∀ c ∈ x.chs, M.inI c.2.1 ∧ M.inI c.2.2) :
    Calls Tryz.prog 7 #[actV x a m cap] w fun e w' => e = .returned (.tuple #[.string (M.str (if (M.wA x).2 = true then [] else (M.wA x).1)), .int .i64 (if (M.wA x).2 = true then 3 else 0)]) ∧ Below w.heap.size w w' := by
  obtain ⟨p, hp⟩ : ∃ p, p = w.heap.size := ⟨_, rfl⟩
  obtain ⟨W1, hW1⟩ : ∃ W1, W1 = w.alloc (.cells #[.int .i64 x.kind, .string (M.str x.one), .string (M.str x.two), .slice a m cap] 30) := ⟨_, rfl⟩
  obtain ⟨W, hW⟩ : ∃ W, W = W1.alloc (.cells #[.slice none 0 0, .bool false] 69) := ⟨_, rfl⟩
  have hb1 : Below w.heap.size w W1 := by rw [hW1]; exact (Below.refl _ _).alloc (Nat.le_refl _) _
  have hb2 : Below W1.heap.size W1 W := by rw [hW]; exact (Below.refl _ _).alloc (Nat.le_refl _) _
  have hs1 : W1.heap.size = p + 1 := by rw [hW1, hp]; simp
  have hb : Below w.heap.size w W := hb1.trans (hb2.mono (by rw [hs1, hp]; omega))
  have HP0 : PenAt W (p + 1) (p + 1) [] false := by
    refine ⟨.slice none 0 0, ?_, Nat.le_refl _, ⟨rfl, Or.inl ⟨rfl, rfl⟩⟩⟩
    rw [hW, ← hs1]; exact heap_alloc_new _ _
  have hW10 : W1.heap[p]? = some (.cells #[.int .i64 x.kind, .string (M.str x.one), .string (M.str x.two), .slice a m cap] 30 (0, 0)) := by rw [hW1, hp]; exact heap_alloc_new _ _
  have HA : Hid (∀ V, Below (p + 1) W V → V.heap[p]? = some (.cells #[.int .i64 x.kind, .string (M.str x.one), .string (M.str x.two), .slice a m cap] 30 (0, 0))) := fun V hV => by
    rw [hV.block p (by omega), hb2.block p (by omega)]; exact hW10
  have hbp : ∀ V, Below (p + 1) W V → Below w.heap.size w V := fun V hV => hb.trans (hV.mono (by rw [← hp]; omega))
  have HRc : Hid (∀ V, Below (p + 1) W V → Rc V a m x.chs) := fun V hV => hrc.below (hbp V hV) (Nat.le_refl _)
  have HBp : Hid (∀ V, Below (p + 1) W V → Below w.heap.size w V) := hbp
  have HRg : Hid (∀ c ∈ x.chs, M.inI c.2.1 ∧ M.inI c.2.2) := hrg
  have HWn : Hid (∀ k, ((x.chs.take k).foldl M.wC (M.wA4 x)).1.length ≤ 10000) := M.wA_len x
  have hchl : x.chs.length = m := hrc.1
  have HLn : Aside (x.chs.length = m) := hchl
  have hl1 : (M.pnL false ([], false) [x.kind]).1.length ≤ 2 := M.pnL_len false ([], false) [x.kind]
  have hl2 := M.pnT_len (M.pnL false ([], false) [x.kind]) x.one
  have hl3 := M.pnT_len (M.pnT (M.pnL false ([], false) [x.kind]) x.one) x.two
  have H4 : Hid (M.wA4 x = M.pnL false (M.pnT (M.pnT (M.pnL false ([], false) [x.kind]) x.one) x.two) [(m : Int)]) := by rw [← hchl]; rfl
  have HWA : Hid (M.wA x = x.chs.foldl M.wC (M.wA4 x)) := rfl
  obtain ⟨s1, e1⟩ : ∃ s, s = M.pnL false ([], false) [x.kind] := ⟨_, rfl⟩
  obtain ⟨s2, e2⟩ : ∃ s, s = M.pnT s1 x.one := ⟨_, rfl⟩
  obtain ⟨s3, e3⟩ : ∃ s, s = M.pnT s2 x.two := ⟨_, rfl⟩
  rw [← e1] at hl1 hl2 hl3 H4
  rw [← e2] at hl2 hl3 H4
  rw [← e3] at hl3 H4
  have K1 := pbyte1_any (p + 1) (p + 1) [] false x.kind W HP0 (by simp)
  rw [← e1] at K1
  have K2 : ∀ V, PenAt V (p + 1) (p + 1) s1.1 s1.2 → Calls Tryz.prog 25 #[.pointer (some ⟨p + 1, 0, none⟩), .string (M.str x.one)] V fun e w' => (∃ v, e = .returned v) ∧ PenAt w' (p + 1) (p + 1) s2.1 s2.2 ∧ Below (p + 1) V w' ∧ Kp V w' := fun V hV => by
    rw [e2]; exact ptext_any (p + 1) (p + 1) s1.1 s1.2 x.one V hV h1 (by omega)
  have K3 : ∀ V, PenAt V (p + 1) (p + 1) s2.1 s2.2 → Calls Tryz.prog 25 #[.pointer (some ⟨p + 1, 0, none⟩), .string (M.str x.two)] V fun e w' => (∃ v, e = .returned v) ∧ PenAt w' (p + 1) (p + 1) s3.1 s3.2 ∧ Below (p + 1) V w' ∧ Kp V w' := fun V hV => by
    rw [e3]; exact ptext_any (p + 1) (p + 1) s2.1 s2.2 x.two V hV h2 (by omega)
  have K4 : ∀ V, PenAt V (p + 1) (p + 1) s3.1 s3.2 → Calls Tryz.prog 24 #[.pointer (some ⟨p + 1, 0, none⟩), .slice (some ⟨V.heap.size, 0, none⟩) 1 1] (V.alloc (.cells #[.int .i64 (m : Int)] 3)) fun e w' => (∃ v, e = .returned v) ∧ PenAt w' (p + 1) (p + 1) (M.wA4 x).1 (M.wA4 x).2 ∧ Below (p + 1) V w' ∧ Kp V w' := fun V hV => by
    rw [H4.out]; exact pbyte1_any (p + 1) (p + 1) s3.1 s3.2 m V hV (by omega)
  have HK1 : Hid (Calls Tryz.prog 24 #[.pointer (some ⟨p + 1, 0, none⟩), .slice (some ⟨W.heap.size, 0, none⟩) 1 1] (W.alloc (.cells #[.int .i64 x.kind] 3)) fun e w' => (∃ v, e = .returned v) ∧ PenAt w' (p + 1) (p + 1) s1.1 s1.2 ∧ Below (p + 1) W w' ∧ Kp W w') := K1
  have HK2 : Hid (∀ V, PenAt V (p + 1) (p + 1) s1.1 s1.2 → Calls Tryz.prog 25 #[.pointer (some ⟨p + 1, 0, none⟩), .string (M.str x.one)] V fun e w' => (∃ v, e = .returned v) ∧ PenAt w' (p + 1) (p + 1) s2.1 s2.2 ∧ Below (p + 1) V w' ∧ Kp V w') := K2
  have HK3 : Hid (∀ V, PenAt V (p + 1) (p + 1) s2.1 s2.2 → Calls Tryz.prog 25 #[.pointer (some ⟨p + 1, 0, none⟩), .string (M.str x.two)] V fun e w' => (∃ v, e = .returned v) ∧ PenAt w' (p + 1) (p + 1) s3.1 s3.2 ∧ Below (p + 1) V w' ∧ Kp V w') := K3
  have HK4 : Hid (∀ V, PenAt V (p + 1) (p + 1) s3.1 s3.2 → Calls Tryz.prog 24 #[.pointer (some ⟨p + 1, 0, none⟩), .slice (some ⟨V.heap.size, 0, none⟩) 1 1] (V.alloc (.cells #[.int .i64 (m : Int)] 3)) fun e w' => (∃ v, e = .returned v) ∧ PenAt w' (p + 1) (p + 1) (M.wA4 x).1 (M.wA4 x).2 ∧ Below (p + 1) V w' ∧ Kp V w') := K4
  have HW : Hid (W = (w.alloc (.cells #[.int .i64 x.kind, .string (M.str x.one), .string (M.str x.two), .slice a m cap] 30)).alloc (.cells #[.slice none 0 0, .bool false] 69)) := by rw [← hW1]; exact hW
  have hWs : W.heap.size = p + 1 + 1 := by rw [hW]; simp [hs1]
  rw [hWs] at HK1
  have HP : Aside (p = w.heap.size) := hp
  have blk := HA.out W (Below.refl _ _)
  have j0 : W.cell? ⟨p, 0, none⟩ = some (.int .i64 x.kind) := by rw [cell_of_row _ _ _ _ _ _ blk]; rfl
  rw [HW.out, HP.out] at j0
  obtain ⟨so8, hso8⟩ : ∃ so8, so8 = M.str (if (M.wA x).2 = true then [] else (M.wA x).1) := ⟨_, rfl⟩
  obtain ⟨e8, he8⟩ : ∃ e8 : Int, e8 = if (M.wA x).2 = true then 3 else 0 := ⟨_, rfl⟩
  rw [← hso8, ← he8]
  have H8 : Hid (so8 = M.str (if (M.wA x).2 = true then [] else (M.wA x).1)) := hso8
  have H9 : Hid (e8 = if (M.wA x).2 = true then 3 else 0) := he8
  unfold actV
  obtain ⟨kd, hkd⟩ : ∃ kd, kd = x.kind := ⟨_, rfl⟩
  obtain ⟨so, hso⟩ : ∃ so, so = M.str x.one := ⟨_, rfl⟩
  obtain ⟨st, hst⟩ : ∃ st, st = M.str x.two := ⟨_, rfl⟩
  rw [← hkd, ← hso, ← hst] at HA HW j0 ⊢
  rw [← hkd] at HK1
  rw [← hso] at HK2
  rw [← hst] at HK3
  clear hso8 he8 hkd hso hst blk K1 K2 K3 K4 e1 e2 e3 hl1 hl2 hl3 hrc hrg hchl hbp h1 h2 HP0 hW10 hW hW1 hb hb1 hb2 hs1 hp hWs
  go_enter Tryz.func7, Tryz.ntmps7
  go_wp2_with fail
  rw [← HW.out, ← HP.out]
  refine HK1.out.mono ?_
  rintro e w1 ⟨⟨v1, rfl⟩, q1, b1, _⟩
  have HQ1 : Hid (PenAt w1 (p + 1) (p + 1) s1.1 s1.2) := q1
  have blk := HA.out w1 b1
  clear j0
  have j1 : w1.cell? ⟨p, 1, none⟩ = some (.string so) := by rw [cell_of_row _ _ _ _ _ _ blk]; rfl
  clear blk q1
  go_wp2_with fail
  refine (HK2.out w1 HQ1.out).mono ?_
  rintro e w2 ⟨⟨v2, rfl⟩, q2, b2, _⟩
  have HQ2 : Hid (PenAt w2 (p + 1) (p + 1) s2.1 s2.2) := q2
  have c2 := b1.trans b2
  have blk := HA.out w2 c2
  clear j1
  have j2 : w2.cell? ⟨p, 2, none⟩ = some (.string st) := by rw [cell_of_row _ _ _ _ _ _ blk]; rfl
  clear blk q2 b1 b2
  go_wp2_with fail
  refine (HK3.out w2 HQ2.out).mono ?_
  rintro e w3 ⟨⟨v3, rfl⟩, q3, b3, _⟩
  have HQ3 : Hid (PenAt w3 (p + 1) (p + 1) s3.1 s3.2) := q3
  have c3 := c2.trans b3
  have blk := HA.out w3 c3
  clear j2
  have j3 : w3.cell? ⟨p, 3, none⟩ = some (.slice a m cap) := by rw [cell_of_row _ _ _ _ _ _ blk]; rfl
  clear blk q3 b3 c2
  go_wp2_with fail
  refine (HK4.out w3 HQ3.out).mono ?_
  rintro e w4 ⟨⟨v4, rfl⟩, q4, b4, _⟩
  have HQ4 : Aside (PenAt w4 (p + 1) (p + 1) (M.wA4 x).1 (M.wA4 x).2) := q4
  have c4 := c3.trans b4
  have blk := HA.out w4 c4
  clear j3
  have j4 : w4.cell? ⟨p, 3, none⟩ = some (.slice a m cap) := by rw [cell_of_row _ _ _ _ _ _ blk]; rfl
  clear blk q4 b4 c3 HK1 HK2 HK3 HK4
  go_wp2_with fail
  go_loopg [31] m (fun g i wr => ∃ k : Nat, k + g = m ∧ i = .int .i64 k ∧ Aside (PenAt wr (p + 1) (p + 1) ((x.chs.take k).foldl M.wC (M.wA4 x)).1 ((x.chs.take k).foldl M.wC (M.wA4 x)).2) ∧ Below (p + 1) W wr)
  case atStart => exact ⟨0, by omega, rfl, HQ4, c4⟩
  case round =>
    obtain ⟨k, hk, rfl, HPk, hbel⟩ := hrel
    clear j4
    by_cases hkm : k < m
    · have hki : (k : Int) < (m : Int) := by omega
      have hkn : k < x.chs.length := by rw [HLn.out]; exact hkm
      obtain ⟨ab, ao, rfl, hab, hc⟩ : ∃ ab ao, a = some ⟨ab, ao, none⟩ ∧ ab < wr.heap.size ∧ (wr.cell? ⟨ab, ao + k * 3, none⟩ = some (.int .i64 (x.chs.getD k (0, 0, 0)).1) ∧ wr.cell? ⟨ab, ao + k * 3 + 1, none⟩ = some (.int .i64 (x.chs.getD k (0, 0, 0)).2.1) ∧ wr.cell? ⟨ab, ao + k * 3 + 2, none⟩ = some (.int .i64 (x.chs.getD k (0, 0, 0)).2.2)) := by
        rcases (HRc.out wr hbel).cases with ⟨h0, _⟩ | ⟨ab, ao, e, _, _, hB, hc⟩
        · omega
        · exact ⟨ab, ao, e, hB, hc k hkm⟩
      have hmem : x.chs.getD k (0, 0, 0) ∈ x.chs := by
        have : x.chs.getD k (0, 0, 0) = x.chs[k] := by simp [List.getD, hkn]
        rw [this]; exact List.getElem_mem hkn
      have hst := M.wC_take (M.wA4 x) x.chs k hkn
      have hrg := HRg.out _ hmem
      obtain ⟨c, hcc⟩ : ∃ c, c = x.chs.getD k (0, 0, 0) := ⟨_, rfl⟩
      rw [← hcc] at hc hst hrg
      rw [← wC_wrap _ _ hrg] at hst
      obtain ⟨x0, x1, x2⟩ := c
      obtain ⟨ck, c1, c2⟩ := hc
      simp only at ck c1 c2 hst
      obtain ⟨z1, hz1⟩ : ∃ z, z = IntKind.i64.wrap (x1 + 1) := ⟨_, rfl⟩
      obtain ⟨z2, hz2⟩ : ∃ z, z = IntKind.i64.wrap (x2 + 1) := ⟨_, rfl⟩
      rw [← hz1, ← hz2] at hst
      have y1 : wrap64 (x1 + 1) = z1 := by rw [hz1]; exact (IntWalk.i64_left _).symm
      have y2 : wrap64 (x2 + 1) = z2 := by rw [hz2]; exact (IntWalk.i64_left _).symm
      have hlk : ((x.chs.take k).foldl M.wC (M.wA4 x)).1.length ≤ 10000 := HWn.out k
      generalize (x.chs.take k).foldl M.wC (M.wA4 x) = sk at *
      obtain ⟨lk, ok⟩ := sk
      simp only at hlk HPk
      obtain ⟨W5, hW5⟩ : ∃ W5, W5 = wr.alloc (.cells #[.int .i64 x0, .int .i64 x1, .int .i64 x2] 64) := ⟨_, rfl⟩
      have hb5 : Below wr.heap.size wr W5 := by rw [hW5]; exact (Below.refl _ _).alloc (Nat.le_refl _) _
      have h50 : W5.heap[wr.heap.size]? = some (.cells #[.int .i64 x0, .int .i64 x1, .int .i64 x2] 64 (0, 0)) := by rw [hW5]; exact heap_alloc_new _ _
      have HC5 : Hid (∀ V, Kp W5 V → V.heap[wr.heap.size]? = some (.cells #[.int .i64 x0, .int .i64 x1, .int .i64 x2] 64 (0, 0))) := fun V hV => hV _ _ _ (by decide) (by decide) h50
      have hbel5 : Below (p + 1) W W5 := hbel.trans (hb5.mono HPk.out.base)
      have hl5 := M.pnL_len false (lk, ok) [x0]
      have hw5s : W5.heap.size = wr.heap.size + 1 := by rw [hW5]; simp
      obtain ⟨s5, hs5⟩ : ∃ s, s = M.pnL false (lk, ok) [x0] := ⟨_, rfl⟩
      rw [← hs5] at hst hl5
      have K5 := pbyte1_any (p + 1) (p + 1) lk ok x0 W5 (HPk.out.later hb5) (by omega)
      rw [← hs5, hw5s] at K5
      have HK5 : Hid (Calls Tryz.prog 24 #[.pointer (some ⟨p + 1, 0, none⟩), .slice (some ⟨wr.heap.size + 1, 0, none⟩) 1 1] (W5.alloc (.cells #[.int .i64 x0] 3)) fun e w' => (∃ v, e = .returned v) ∧ PenAt w' (p + 1) (p + 1) s5.1 s5.2 ∧ Below (p + 1) W5 w' ∧ Kp W5 w') := K5
      have HK6 : Hid (∀ V, PenAt V (p + 1) (p + 1) s5.1 s5.2 → Calls Tryz.prog 26 #[.pointer (some ⟨p + 1, 0, none⟩), .slice (some ⟨V.heap.size, 0, none⟩) 2 2] (V.alloc (.cells #[.int .i64 z1, .int .i64 z2] 3)) fun e w' => (∃ v, e = .returned v) ∧ PenAt w' (p + 1) (p + 1) (M.pnL true s5 [z1, z2]).1 (M.pnL true s5 [z1, z2]).2 ∧ Below (p + 1) V w' ∧ Kp V w') := fun V hV =>
        ppair2_any (p + 1) (p + 1) s5.1 s5.2 _ _ V hV (by simp at hl5; omega)
      have HSt : Hid ((x.chs.take (k + 1)).foldl M.wC (M.wA4 x) = M.pnL true s5 [z1, z2]) := hst
      have d0 : W5.cell? ⟨wr.heap.size, 0, none⟩ = some (.int .i64 x0) := by rw [cell_of_row _ _ _ _ _ _ h50]; rfl
      have HW5 : Hid (W5 = wr.alloc (.cells #[.int .i64 x0, .int .i64 x1, .int .i64 x2] 64)) := hW5
      rw [hW5] at d0
      clear hz1 hz2 hst hs5 hcc hl5 K5 h50 hb5 hW5 hmem hrg hw5s hlk
      go_wp2_with fail
      rw [← HW5.out]
      refine HK5.out.mono ?_
      rintro e w6 ⟨⟨v6, rfl⟩, q6, b6, k6⟩
      have blk := HC5.out w6 k6
      have d1 : w6.cell? ⟨wr.heap.size, 1, none⟩ = some (.int .i64 x1) := by rw [cell_of_row _ _ _ _ _ _ blk]; rfl
      have d2 : w6.cell? ⟨wr.heap.size, 2, none⟩ = some (.int .i64 x2) := by rw [cell_of_row _ _ _ _ _ _ blk]; rfl
      have HQ6 : Hid (PenAt w6 (p + 1) (p + 1) s5.1 s5.2) := q6
      have c6 := hbel5.trans b6
      clear blk q6 b6 k6 ck c1 c2 d0
      go_wp2_with fail
      refine (HK6.out w6 HQ6.out).mono ?_
      rintro e w7 ⟨⟨v7, rfl⟩, q7, b7, _⟩
      rw [← HSt.out] at q7
      have HQ7 : Aside (PenAt w7 (p + 1) (p + 1) ((x.chs.take (k + 1)).foldl M.wC (M.wA4 x)).1 ((x.chs.take (k + 1)).foldl M.wC (M.wA4 x)).2) := q7
      have c7 := c6.trans b7
      clear q7 b7 d1 d2 HK5 HK6
      go_wp2
      go_roundg (gk - 1)
      case measure => omega
      case rel => exact ⟨k + 1, by omega, by go_num, HQ7, c7⟩
    · obtain rfl : k = m := by omega
      have hkk2 : decide ((k : Int) < (k : Int)) = false := by simp
      have e1 : x.chs.take k = x.chs := List.take_of_length_le (by rw [HLn.out]; exact Nat.le_refl _)
      have K8 := written_any (p + 1) (p + 1) _ _ wr HPk.out
      rw [e1, ← HWA.out] at K8
      rw [← H8.out, ← H9.out] at K8
      have HK8 : Hid (Calls Tryz.prog 27 #[.pointer (some ⟨p + 1, 0, none⟩)] wr fun e w' => e = .returned (.tuple #[.string so8, .int .i64 e8]) ∧ Below wr.heap.size wr w') := K8
      have hpb : p + 1 ≤ wr.heap.size := HPk.out.base
      clear e1 K8
      go_wp2_with fail
      refine HK8.out.mono ?_
      rintro e w9 ⟨rfl, b9⟩
      have c9 := HBp.out _ (hbel.trans (b9.mono hpb))
      clear b9
      go_wp2
      go_ret2
      exact ⟨rfl, c9⟩
end Go.Proofs.YtcgpgflnihjpiagGreat

/- The reader of bytes: take, Byte, Pair, Text. -/
namespace Go.Proofs.YtcgpgflnihjpiagGreat
open Go.RowKit

/-- All but the block b is as it was. -/
def But (b : Nat) (w w' : World) : Prop := w.grownBy w' (some b)
theorem But.refl (b : Nat) (w : World) : But b w w := ⟨rfl, rfl, rfl, Nat.le_refl _, fun _ _ _ => rfl⟩
theorem But.trans {b : Nat} {w1 w2 w3 : World} (h : But b w1 w2) (k : But b w2 w3) : But b w1 w3 :=
  ⟨k.os.trans h.os, k.tape.trans h.tape, k.output.trans h.output, Nat.le_trans h.size k.size, fun i hi hne => (k.block i (Nat.lt_of_lt_of_le hi h.size) hne).trans (h.block i hi hne)⟩
theorem But.below {b : Nat} {w w' : World} (h : But b w w') (hb : b ≤ w.heap.size) : Below b w w' := ⟨h.os, h.tape, h.output, h.size, fun k hk => h.block k (by omega) (fun e => by cases e; omega)⟩
theorem But.of {b : Nat} {w w' : World} (h : Below w.heap.size w w') : But b w w' := ⟨h.os, h.tape, h.output, h.size, fun k hk _ => h.block k hk⟩
theorem But.set (b o : Nat) (w : World) (v : Value) : But b w (w.setCell ⟨b, o, none⟩ v) := grownBy_set w ⟨b, o, none⟩ v
/-- What is left to be read lies in the block b. -/
def RdAt (w : World) (b : Nat) (l : M.By) : Prop := w.heap[b]? = some (.cells #[.string (M.str l)] 101 (0, 0)) ∧ l.length ≤ 9223372036854775807
theorem RdAt.cell {w : World} {b : Nat} {l : M.By} (h : RdAt w b l) : w.cell? ⟨b, 0, none⟩ = some (.string (M.str l)) := by rw [cell_of_row _ _ _ _ _ _ h.1]; rfl
theorem RdAt.fr {w : World} {b : Nat} {l : M.By} (h : RdAt w b l) : w.frozen? ⟨b, 0, none⟩ = false := frozen_of_row _ _ _ _ _ h.1
theorem RdAt.lt {w : World} {b : Nat} {l : M.By} (h : RdAt w b l) : b < w.heap.size := (Array.getElem?_eq_some_iff.1 h.1).1
theorem RdAt.set {w : World} {b : Nat} {l : M.By} (h : RdAt w b l) (l' : M.By) (hl : l'.length ≤ l.length) : RdAt (w.setCell ⟨b, 0, none⟩ (.string (M.str l'))) b l' := ⟨by rw [heap_setCell_same _ _ _ _ _ _ h.1]; rfl, by have := h.2; omega⟩
theorem RdAt.later {w w' : World} {b : Nat} {l : M.By} (h : RdAt w b l) (hb : Below w.heap.size w w') : RdAt w' b l := ⟨(hb.block b h.lt).trans h.1, h.2⟩
/-- It ends too early. -/
def early : Ending := .panicked [{ v := .iface 25 (.int .i64 1), recovered := false }]

set_option maxHeartbeats 2000000 in
theorem take_any (b n : Nat) (l : M.By) (w : World) (h : RdAt w b l) :
    Calls Tryz.prog 107 #[.pointer (some ⟨b, 0, none⟩), .int .i64 (n : Int)] w fun e w' => But b w w' ∧ ((n ≤ l.length ∧ e = .returned (.string (M.str (l.take n))) ∧ RdAt w' b (l.drop n)) ∨ (l.length < n ∧ e = early)) := by
  obtain ⟨s, hs⟩ : ∃ s, s = M.str l := ⟨_, rfl⟩
  obtain ⟨m, hm⟩ : ∃ m, m = l.length := ⟨_, rfl⟩
  have hsz : s.size = m := by rw [hs, M.str_size, hm]
  have c0 := h.cell
  have f0 := h.fr
  rw [← hs] at c0
  by_cases hn : n ≤ l.length
  · have e1 : s.extract 0 n = M.str (l.take n) := by rw [hs, M.str_take]
    have e2 : s.extract n m = M.str (l.drop n) := by rw [hs, M.str_drop l n m hm]
    have h1 : decide ((m : Int) < (n : Int)) = false := by simp; omega
    have h2 : (n : Int) ≤ (m : Int) := by omega
    have HR : Hid (RdAt (w.setCell ⟨b, 0, none⟩ (.string (M.str (l.drop n)))) b (l.drop n)) := h.set _ (by simp)
    have HN : Hid (n ≤ l.length) := hn
    clear h hs hm hn
    go_enter Tryz.func107, Tryz.ntmps107
    go_wp2
    go_ret
    exact ⟨But.set _ _ _ _, Or.inl ⟨HN.out, rfl, HR.out⟩⟩
  · have h1 : decide ((m : Int) < (n : Int)) = true := by simp; omega
    have h2 : (m : Int) < (n : Int) := by omega
    have HN : Hid (l.length < n) := by unfold Hid; omega
    clear h hs hm hn
    go_enter Tryz.func107, Tryz.ntmps107
    go_wp2
    exact ⟨rfl, But.refl _ _, Or.inr ⟨HN.out, rfl⟩⟩

/-- What is read, and what is left. -/
def Reads {α : Type} (b : Nat) (w w' : World) (r : Option (α × M.By)) (val : α → Value → World → Prop) (e : Ending) : Prop :=
  But b w w' ∧ ((∃ x t v, r = some (x, t) ∧ e = .returned v ∧ val x v w' ∧ RdAt w' b t) ∨ (r = none ∧ e = early))
def isInt (k : Int) (v : Value) (_ : World) : Prop := v = .int .i64 k
def isStr (l : M.By) (v : Value) (_ : World) : Prop := v = .string (M.str l)

set_option maxHeartbeats 2000000 in
theorem byte_any (b : Nat) (l : M.By) (w : World) (h : RdAt w b l) :
    Calls Tryz.prog 63 #[.pointer (some ⟨b, 0, none⟩)] w fun e w' => Reads b w w' (M.rB l) isInt e := by
  have K : Hid (Calls Tryz.prog 107 #[.pointer (some ⟨b, 0, none⟩), .int .i64 1] w fun e w' => But b w w' ∧ ((1 ≤ l.length ∧ e = .returned (.string (M.str (l.take 1))) ∧ RdAt w' b (l.drop 1)) ∨ (l.length < 1 ∧ e = early))) := take_any b 1 l w h
  clear h
  cases l with
  | nil =>
    go_enter Tryz.func63, Tryz.ntmps63
    go_wp2_with fail
    refine K.out.mono ?_
    rintro e w1 ⟨hb, ⟨h1, _⟩ | ⟨_, rfl⟩⟩
    · simp at h1
    · unfold early
      go_wp2
      exact ⟨rfl, hb, Or.inr ⟨rfl, rfl⟩⟩
  | cons x t =>
    have e1 : M.str ((x :: t).take 1) = ⟨#[x]⟩ := rfl
    rw [e1] at K
    have hx : wrap64 (x.toNat : Int) = (x.toNat : Int) := by have := x.toNat_lt; unfold wrap64; omega
    have HX : Hid (wrap64 (x.toNat : Int) = (x.toNat : Int)) := hx
    clear hx
    go_enter Tryz.func63, Tryz.ntmps63
    go_wp2_with fail
    refine K.out.mono ?_
    rintro e w1 ⟨hb, ⟨_, rfl, hr⟩ | ⟨h1, _⟩⟩
    · have HR : Hid (RdAt w1 b t) := hr
      clear hr
      go_wp2
      go_ret
      exact ⟨hb, Or.inl ⟨_, t, _, rfl, rfl, congrArg (Value.int .i64) HX.out, HR.out⟩⟩
    · simp at h1
theorem M.rB_range {l t : M.By} {k : Int} (h : M.rB l = some (k, t)) : 0 ≤ k ∧ k < 256 := (M.rB_inv h).2
theorem M.r2_yes {l t u : M.By} {k j : Int} (h : M.rB l = some (k, t)) (h2 : M.rB t = some (j, u)) : M.r2 l = some (256 * k + j, u) := by
  match l, t, h, h2 with
  | x :: y :: v, _, h, h2 =>
    simp only [M.rB, Option.some.injEq, Prod.mk.injEq] at h
    obtain ⟨rfl, rfl⟩ := h
    simp only [M.rB, Option.some.injEq, Prod.mk.injEq] at h2
    obtain ⟨rfl, rfl⟩ := h2
    rfl
  | [x], _, h, h2 =>
    simp only [M.rB, Option.some.injEq, Prod.mk.injEq] at h
    obtain ⟨rfl, rfl⟩ := h
    simp [M.rB] at h2
  | [], _, h, _ => simp [M.rB] at h
theorem M.r2_no1 {l : M.By} (h : M.rB l = none) : M.r2 l = none := by
  cases l with
  | nil => rfl
  | cons x t => simp [M.rB] at h
theorem M.r2_no2 {l t : M.By} {k : Int} (h : M.rB l = some (k, t)) (h2 : M.rB t = none) : M.r2 l = none := by
  match l, h with
  | x :: y :: v, h =>
    simp only [M.rB, Option.some.injEq, Prod.mk.injEq] at h
    obtain ⟨rfl, rfl⟩ := h
    simp [M.rB] at h2
  | [x], _ => rfl
  | [], h => simp [M.rB] at h
theorem M.rT_yes {l t : M.By} {k : Int} (h : M.rB l = some (k, t)) : M.rT l = if k.toNat ≤ t.length then some (t.take k.toNat, t.drop k.toNat) else none := by
  cases l with
  | nil => simp [M.rB] at h
  | cons x u =>
    simp only [M.rB, Option.some.injEq, Prod.mk.injEq] at h
    obtain ⟨rfl, rfl⟩ := h
    rfl
theorem M.rT_no {l : M.By} (h : M.rB l = none) : M.rT l = none := by
  cases l with
  | nil => rfl
  | cons x t => simp [M.rB] at h

set_option maxHeartbeats 2000000 in
theorem pair_any (b : Nat) (l : M.By) (w : World) (h : RdAt w b l) :
    Calls Tryz.prog 108 #[.pointer (some ⟨b, 0, none⟩)] w fun e w' => Reads b w w' (M.r2 l) isInt e := by
  have K : Hid (Calls Tryz.prog 63 #[.pointer (some ⟨b, 0, none⟩)] w fun e w' => Reads b w w' (M.rB l) isInt e) := byte_any b l w h
  clear h
  go_enter Tryz.func108, Tryz.ntmps108
  go_wp2_with fail
  refine K.out.mono ?_
  rintro e w1 ⟨hb, ⟨k, t, v, h1, rfl, rfl, hr⟩ | ⟨h1, rfl⟩⟩
  · have K2 : Hid (Calls Tryz.prog 63 #[.pointer (some ⟨b, 0, none⟩)] w1 fun e w' => Reads b w1 w' (M.rB t) isInt e) := byte_any b t w1 hr
    have H1 : Hid (M.rB l = some (k, t)) := h1
    have hk := M.rB_range h1
    have hw : IntKind.i64.wrap (256 * k) = 256 * k := by rw [IntKind.wrap_i64]; omega
    clear h1 hr K
    go_wp2_with fail
    refine K2.out.mono ?_
    rintro e w2 ⟨hb2, ⟨j, u, v, h2, rfl, rfl, hr⟩ | ⟨h2, rfl⟩⟩
    · have H2 : Hid (M.rB t = some (j, u)) := h2
      have HR : Hid (RdAt w2 b u) := hr
      have hj := M.rB_range h2
      have hw2 : IntKind.i64.wrap (256 * k + j) = 256 * k + j := by rw [IntKind.wrap_i64]; omega
      clear h2 hr K2
      go_wp2
      go_ret
      exact ⟨hb.trans hb2, Or.inl ⟨_, u, _, M.r2_yes H1.out H2.out, rfl, rfl, HR.out⟩⟩
    · have H2 : Hid (M.rB t = none) := h2
      clear h2 K2
      unfold early
      go_wp2
      exact ⟨rfl, hb.trans hb2, Or.inr ⟨M.r2_no2 H1.out H2.out, rfl⟩⟩
  · have H1 : Hid (M.rB l = none) := h1
    clear h1 K
    unfold early
    go_wp2
    exact ⟨rfl, hb, Or.inr ⟨M.r2_no1 H1.out, rfl⟩⟩

set_option maxHeartbeats 2000000 in
theorem text_any (b : Nat) (l : M.By) (w : World) (h : RdAt w b l) :
    Calls Tryz.prog 64 #[.pointer (some ⟨b, 0, none⟩)] w fun e w' => Reads b w w' (M.rT l) isStr e := by
  have K : Hid (Calls Tryz.prog 63 #[.pointer (some ⟨b, 0, none⟩)] w fun e w' => Reads b w w' (M.rB l) isInt e) := byte_any b l w h
  clear h
  go_enter Tryz.func64, Tryz.ntmps64
  go_wp2_with fail
  refine K.out.mono ?_
  rintro e w1 ⟨hb, ⟨k, t, v, h1, rfl, rfl, hr⟩ | ⟨h1, rfl⟩⟩
  · have hk := M.rB_range h1
    obtain ⟨n, rfl⟩ : ∃ n : Nat, k = (n : Int) := ⟨k.toNat, by omega⟩
    have K2 : Hid (Calls Tryz.prog 107 #[.pointer (some ⟨b, 0, none⟩), .int .i64 (n : Int)] w1 fun e w' => But b w1 w' ∧ ((n ≤ t.length ∧ e = .returned (.string (M.str (t.take n))) ∧ RdAt w' b (t.drop n)) ∨ (t.length < n ∧ e = early))) := take_any b n t w1 hr
    have H1 : Hid (M.rT l = if n ≤ t.length then some (t.take n, t.drop n) else none) := M.rT_yes h1
    clear h1 hr K
    go_wp2_with fail
    refine K2.out.mono ?_
    rintro e w2 ⟨hb2, ⟨h2, rfl, hr⟩ | ⟨h2, rfl⟩⟩
    · have HR : Hid (RdAt w2 b (t.drop n)) := hr
      have H2 : Hid (n ≤ t.length) := h2
      clear h2 hr K2
      go_wp2
      go_ret
      exact ⟨hb.trans hb2, Or.inl ⟨_, _, _, by rw [H1.out, if_pos H2.out], rfl, rfl, HR.out⟩⟩
    · have H2 : Hid (t.length < n) := h2
      clear h2 K2
      unfold early
      go_wp2
      exact ⟨rfl, hb.trans hb2, Or.inr ⟨by rw [H1.out, if_neg (by have := H2.out; omega)], rfl⟩⟩
  · have H1 : Hid (M.rB l = none) := h1
    clear h1 K
    unfold early
    go_wp2
    exact ⟨rfl, hb, Or.inr ⟨M.rT_no H1.out, rfl⟩⟩
end Go.Proofs.YtcgpgflnihjpiagGreat

/- The reader of bytes: what it keeps. -/
namespace Go.Proofs.YtcgpgflnihjpiagGreat
open Go.RowKit

theorem But.alloc (b : Nat) (w : World) (o : Obj) : But b w (w.alloc o) := But.of ((Below.refl _ _).alloc (Nat.le_refl _) _)
theorem But.setNew {b R o : Nat} {w w1 : World} (h : But b w w1) (hR : w.heap.size ≤ R) (v : Value) : But b w (w1.setCell ⟨R, o, none⟩ v) :=
  ⟨h.os, h.tape, h.output, by simpa [World.setCell] using h.size, fun k hk hne => by rw [heap_setCell_other _ _ _ _ (by show k ≠ R; omega)]; exact h.block k hk hne⟩
theorem RdAt.other {w : World} {b R o : Nat} {l : M.By} (h : RdAt w b l) (hR : b ≠ R) (v : Value) : RdAt (w.setCell ⟨R, o, none⟩ v) b l := ⟨by rw [heap_setCell_other _ _ _ _ hR]; exact h.1, h.2⟩
theorem RdAt.grown {w w' : World} {b : Nat} {l : M.By} {g : Option Nat} (h : RdAt w b l) (hg : w.grownBy w' g) (hne : g ≠ some b) : RdAt w' b l := ⟨(hg.block b h.lt (fun e => hne e.symm)).trans h.1, h.2⟩
theorem ownsRow_but {w w' : World} {b base : Nat} {e : TypeId} {size : Nat} {v : Value} {n : Nat} {xs : List Value} (h : w.ownsRow base e size v n xs) (hb : But b w w') (hlt : b < base) : w'.ownsRow base e size v n xs := by
  obtain ⟨h1, h2⟩ := h
  refine ⟨h1, ?_⟩
  rcases h2 with h2 | ⟨g, cap, cur, hv, hg, hh, r⟩
  · exact Or.inl h2
  · exact Or.inr ⟨g, cap, cur, hv, hg, (hb.block g (Array.getElem?_eq_some_iff.1 hh).1 (fun e => by cases e; omega)).trans hh, r⟩
theorem But.then {b : Nat} {w w1 w2 : World} (h : But b w w1) (k : Below w.heap.size w1 w2) : But b w w2 :=
  ⟨k.os.trans h.os, k.tape.trans h.tape, k.output.trans h.output, Nat.le_trans h.size k.size, fun i hi hne => (k.block i hi).trans (h.block i hi hne)⟩
theorem RdAt.keep {w w' : World} {b B : Nat} {l : M.By} (h : RdAt w b l) (hb : Below B w w') (hlt : b < B) : RdAt w' b l := ⟨(hb.block b hlt).trans h.1, h.2⟩
theorem M.r2_range {l t : M.By} {k : Int} (h : M.r2 l = some (k, t)) : 0 ≤ k ∧ k < 65536 := (M.r2_inv h).2
end Go.Proofs.YtcgpgflnihjpiagGreat

/- The reader of bytes: changes, and lists of them. -/
namespace Go.Proofs.YtcgpgflnihjpiagGreat
open Go.RowKit

def isChg (c : M.Chg) (v : Value) (_ : World) : Prop := v = cval c
theorem M.rC_at {l l1 : M.By} {k : Int} (h : M.rB l = some (k, l1)) : M.rC l = (match M.r2 l1 with | none => none | some (o, l2) => match M.r2 l2 with | none => none | some (n, l3) => some ((k, o - 1, n - 1), l3)) := by
  unfold M.rC; rw [h]; rfl
theorem M.rC_no {l : M.By} (h : M.rB l = none) : M.rC l = none := by unfold M.rC; rw [h]

set_option maxRecDepth 100000 in
set_option maxHeartbeats 4000000 in
theorem rchange_any (b : Nat) (l : M.By) (w : World) (h : RdAt w b l) :
    Calls Tryz.prog 66 #[.pointer (some ⟨b, 0, none⟩)] w fun e w' => Reads b w w' (M.rC l) isChg e := by
  obtain ⟨R, hR⟩ : ∃ R, R = w.heap.size := ⟨_, rfl⟩
  obtain ⟨W, hW⟩ : ∃ W, W = w.alloc (.cells #[.int .i64 0, .int .i64 0, .int .i64 0] 64) := ⟨_, rfl⟩
  have hb0 : But b w W := by rw [hW]; exact But.alloc _ _ _
  have q0 : W.heap[R]? = some (.cells #[.int .i64 0, .int .i64 0, .int .i64 0] 64 (0, 0)) := by rw [hW, hR]; exact heap_alloc_new _ _
  have hlt := h.lt
  have hW0 : RdAt W b l := h.later (by rw [hW]; exact (Below.refl _ _).alloc (Nat.le_refl _) _)
  have hbR : b ≠ R := by omega
  have HBR : Aside (b ≠ R) := hbR
  have K : Hid (Calls Tryz.prog 63 #[.pointer (some ⟨b, 0, none⟩)] W fun e w' => Reads b W w' (M.rB l) isInt e) := byte_any b l W hW0
  have HQ : Hid (W.heap[R]? = some (.cells #[.int .i64 0, .int .i64 0, .int .i64 0] 64 (0, 0))) := q0
  have HW : Hid (W = w.alloc (.cells #[.int .i64 0, .int .i64 0, .int .i64 0] 64)) := hW
  have HR : Aside (R = w.heap.size) := hR
  clear h hW hR q0 hW0 hlt hbR
  go_enter Tryz.func66, Tryz.ntmps66
  go_wp2_with fail
  rw [← HW.out, ← HR.out]
  refine K.out.mono ?_
  rintro e w1 ⟨hb1, ⟨k, l1, v, h1, rfl, rfl, hr⟩ | ⟨h1, rfl⟩⟩
  case inr =>
    have H1 : Hid (M.rB l = none) := h1
    clear h1 K
    unfold early
    go_wp2
    exact ⟨rfl, hb0.trans hb1, Or.inr ⟨M.rC_no H1.out, rfl⟩⟩
  have H1 : Hid (M.rC l = (match M.r2 l1 with | none => none | some (o, l2) => match M.r2 l2 with | none => none | some (n, l3) => some ((k, o - 1, n - 1), l3))) := M.rC_at h1
  have K2 : Hid (Calls Tryz.prog 108 #[.pointer (some ⟨b, 0, none⟩)] w1 fun e w' => Reads b w1 w' (M.r2 l1) isInt e) := pair_any b l1 w1 hr
  have hc1 := hb0.trans hb1
  clear h1 hr K
  go_wp2_with fail
  refine K2.out.mono ?_
  rintro e w2 ⟨hb2, ⟨o, l2, v, h2, rfl, rfl, hr⟩ | ⟨h2, rfl⟩⟩
  case inr =>
    have H2 : Hid (M.r2 l1 = none) := h2
    clear h2 K2
    unfold early
    go_wp2
    exact ⟨rfl, hc1.trans hb2, Or.inr ⟨by rw [H1.out, H2.out], rfl⟩⟩
  have ho := M.r2_range h2
  have hw1 : IntKind.i64.wrap (o - 1) = o - 1 := by rw [IntKind.wrap_i64]; omega
  have H2 : Hid (M.r2 l1 = some (o, l2)) := h2
  have K3 : Hid (Calls Tryz.prog 108 #[.pointer (some ⟨b, 0, none⟩)] w2 fun e w' => Reads b w2 w' (M.r2 l2) isInt e) := pair_any b l2 w2 hr
  have hc2 := hc1.trans hb2
  clear h2 hr K2
  go_wp2_with fail
  refine K3.out.mono ?_
  rintro e w3 ⟨hb3, ⟨n, l3, v, h3, rfl, rfl, hr⟩ | ⟨h3, rfl⟩⟩
  case inr =>
    have H3 : Hid (M.r2 l2 = none) := h3
    clear h3 K3
    unfold early
    go_wp2
    exact ⟨rfl, hc2.trans hb3, Or.inr ⟨by rw [H1.out, H2.out]; simp only; rw [H3.out], rfl⟩⟩
  have hn := M.r2_range h3
  have hw2 : IntKind.i64.wrap (n - 1) = n - 1 := by rw [IntKind.wrap_i64]; omega
  have H3 : Hid (M.r2 l2 = some (n, l3)) := h3
  have hc3 := hc2.trans hb3
  have q3 : w3.heap[R]? = some (.cells #[.int .i64 0, .int .i64 0, .int .i64 0] 64 (0, 0)) := (((hb1.trans hb2).trans hb3).block R (Array.getElem?_eq_some_iff.1 HQ.out).1 (fun e => HBR.out (Option.some.inj e).symm)).trans HQ.out
  have y0 : w3.cell? ⟨R, 0, none⟩ = some (.int .i64 0) := by rw [cell_of_row _ _ _ _ _ _ q3]; rfl
  have y1 : w3.cell? ⟨R, 1, none⟩ = some (.int .i64 0) := by rw [cell_of_row _ _ _ _ _ _ q3]; rfl
  have y2 : w3.cell? ⟨R, 2, none⟩ = some (.int .i64 0) := by rw [cell_of_row _ _ _ _ _ _ q3]; rfl
  have f0 : w3.frozen? ⟨R, 0, none⟩ = false := frozen_of_row _ _ _ _ _ q3
  have f1 : w3.frozen? ⟨R, 1, none⟩ = false := frozen_of_row _ _ _ _ _ q3
  have f2 : w3.frozen? ⟨R, 2, none⟩ = false := frozen_of_row _ _ _ _ _ q3
  obtain ⟨X, hX⟩ : ∃ X, X = ((w3.setCell ⟨R, 0, none⟩ (.int .i64 k)).setCell ⟨R, 1, none⟩ (.int .i64 (o - 1))).setCell ⟨R, 2, none⟩ (.int .i64 (n - 1)) := ⟨_, rfl⟩
  have qX : X.heap[R]? = some (.cells #[.int .i64 k, .int .i64 (o - 1), .int .i64 (n - 1)] 64 (0, 0)) := by
    rw [hX, heap_setCell_same _ _ _ _ _ _ (heap_setCell_same _ _ _ _ _ _ (heap_setCell_same _ _ _ _ _ _ q3))]; rfl
  have HX : Hid (X = ((w3.setCell ⟨R, 0, none⟩ (.int .i64 k)).setCell ⟨R, 1, none⟩ (.int .i64 (o - 1))).setCell ⟨R, 2, none⟩ (.int .i64 (n - 1))) := hX
  have HRX : Hid (RdAt X b l3) := by unfold Hid; rw [hX]; exact ((hr.other HBR.out _).other HBR.out _).other HBR.out _
  have HBX : Hid (But b w X) := by unfold Hid; rw [hX]; exact ((hc3.setNew (Nat.le_of_eq HR.out.symm) _).setNew (Nat.le_of_eq HR.out.symm) _).setNew (Nat.le_of_eq HR.out.symm) _
  have HX0 : Aside (X.cell? ⟨R, 0, none⟩ = some (.int .i64 k) ∧ X.cell? ⟨R, 1, none⟩ = some (.int .i64 (o - 1)) ∧ X.cell? ⟨R, 2, none⟩ = some (.int .i64 (n - 1))) := ⟨by rw [cell_of_row _ _ _ _ _ _ qX]; rfl, by rw [cell_of_row _ _ _ _ _ _ qX]; rfl, by rw [cell_of_row _ _ _ _ _ _ qX]; rfl⟩
  clear h3 hr K3 q3 qX hX
  go_wp2
  rw [← HX.out]
  obtain ⟨z0, z1, z2⟩ := HX0.out
  refine bodyPost_ret (v := .agg #[.int .i64 k, .int .i64 (o - 1), .int .i64 (n - 1)]) (by simp [results, Tryz.results66, go_sem, z0, z1, z2]) rfl ?_
  exact ⟨HBX.out, Or.inl ⟨(k, o - 1, n - 1), l3, _, by rw [H1.out, H2.out]; simp only; rw [H3.out], rfl, rfl, HRX.out⟩⟩

def isChgs (base : Nat) (xs : List M.Chg) (v : Value) (w : World) : Prop := OwnC w base v xs
set_option maxRecDepth 100000 in
set_option maxHeartbeats 4000000 in
theorem lchange_any (b : Nat) (l : M.By) (w : World) (h : RdAt w b l) :
    Calls Tryz.prog 65 #[.pointer (some ⟨b, 0, none⟩), .func (.func 66) #[] #[]] w fun e w' => Reads b w w' (M.rL M.rC l) (isChgs w.heap.size) e := by
  have K : Hid (Calls Tryz.prog 63 #[.pointer (some ⟨b, 0, none⟩)] w fun e w' => Reads b w w' (M.rB l) isInt e) := byte_any b l w h
  have hlt := h.lt
  clear h
  go_enter Tryz.func65, Tryz.ntmps65
  go_wp2_with fail
  refine K.out.mono ?_
  rintro e w1 ⟨hb1, ⟨k, l1, v, h1, rfl, rfl, hr⟩ | ⟨h1, rfl⟩⟩
  case inr =>
    have H1 : Hid (M.rB l = none) := h1
    clear h1 K
    unfold early
    go_wp2
    exact ⟨rfl, hb1, Or.inr ⟨by unfold M.rL; rw [H1.out], rfl⟩⟩
  have hk := M.rB_range h1
  obtain ⟨n, rfl⟩ : ∃ n : Nat, k = (n : Int) := ⟨k.toNat, by omega⟩
  have H1 : Hid (M.rL M.rC l = M.rN M.rC n l1) := by unfold Hid M.rL; rw [h1]; rfl
  have hn : n < 256 := by omega
  have HR0 : Aside (RdAt w1 b l1) := hr
  clear h1 hr K hk
  go_wp2_with fail
  go_loopg [8, 5] n (fun g i v wr => ∃ (k : Nat) (xs : List M.Chg) (t : M.By), k + g = n ∧ i = .int .i64 k ∧ Aside (M.rN M.rC k l1 = some (xs, t)) ∧ Aside (xs.length = k) ∧ Aside (OwnC wr w.heap.size v xs) ∧ Aside (RdAt wr b t) ∧ But b w wr)
  case atStart => exact ⟨0, [], l1, by omega, rfl, rfl, rfl, OwnC.nil _ _, HR0, hb1⟩
  case round =>
    obtain ⟨k, xs, t, hkg, rfl, HN, HL, HO, HRt, hbw⟩ := hrel
    by_cases hkn : k < n
    · have hki : (k : Int) < (n : Int) := by omega
      have K2 : Hid (Calls Tryz.prog 66 #[.pointer (some ⟨b, 0, none⟩)] wr fun e w' => Reads b wr w' (M.rC t) isChg e) := rchange_any b t wr HRt.out
      go_wp2_with fail
      refine K2.out.mono ?_
      rintro e w2 ⟨hb2, ⟨c, t2, v, h2, rfl, rfl, hr⟩ | ⟨h2, rfl⟩⟩
      · have HN2 : Aside (M.rN M.rC (k + 1) l1 = some (xs ++ [c], t2)) := by unfold Aside; rw [M.rN_snoc, HN.out]; simp only; rw [h2]
        have HL2 : Aside ((xs ++ [c]).length = k + 1) := by unfold Aside; rw [List.length_append, HL.out]; rfl
        obtain ⟨c0, c1, c2⟩ := c
        have hs2 : w.heap.size ≤ w2.heap.size := (hbw.trans hb2).size
        have HOA : Hid (OwnC (w2.alloc (.cells #[.int .i64 c0, .int .i64 c1, .int .i64 c2] 64)) w.heap.size u5 xs) := World.ownsRow.alloc (ownsRow_but HO.out hb2 hlt) _
        have HR2 : Hid (RdAt w2 b t2) := hr
        have hbig : xs.length + 1 ≤ 1000000 := by rw [HL.out]; omega
        clear h2 hr K2
        unfold cval
        go_wp2_with (at_builtin; refine append_rc rfl _ _ rfl w.heap.size _ xs rfl HOA.out w2.heap.size 1 1 [(c0, c1, c2)] rfl rfl (rc_one w2 _ _ _) hbig (by simp; omega) ?_)
        intro v' w3 ho' hb4 _
        have qb3 : Below w.heap.size w2 w3 := ((Below.refl _ _).alloc hs2 _).trans hb4
        have HO3 : Aside (OwnC w3 w.heap.size v' (xs ++ [(c0, c1, c2)])) := ho'
        have HR3 : Aside (RdAt w3 b t2) := HR2.out.keep qb3 hlt
        have hbw3 : But b w w3 := (hbw.trans hb2).then qb3
        clear ho' hb4 HOA qb3
        go_wp2
        go_roundg (gk - 1)
        case measure => omega
        case rel => exact ⟨k + 1, _, t2, by omega, by go_num, HN2, HL2, HO3, HR3, hbw3⟩
      · have H2 : Hid (M.rN M.rC n l1 = none) := by
          have : M.rN M.rC (k + 1) l1 = none := by rw [M.rN_snoc, HN.out]; simp only; rw [h2]
          exact M.rN_none _ _ _ _ this (by omega)
        clear h2 K2
        unfold early
        go_wp2
        exact ⟨rfl, hbw.trans hb2, Or.inr ⟨by rw [H1.out, H2.out], rfl⟩⟩
    · obtain rfl : k = n := by omega
      have hkk2 : decide ((k : Int) < (k : Int)) = false := by simp
      go_wp2
      go_ret
      exact ⟨hbw, Or.inl ⟨xs, t, _, by rw [H1.out]; exact HN.out, rfl, HO.out, HRt.out⟩⟩
end Go.Proofs.YtcgpgflnihjpiagGreat
