/- The reference's PatchOf. -/
import Derived.Test.YtcgpgflnihjpiacRFine
import Derived.Test.YtcgpgflnihjpiacTable
namespace Go.Proofs.Ytcgpgflnihjpiac
namespace M
theorem tab_step (f : Int → Int) (d : List Chg) (i : Nat) (h : i < d.length) (x y z : Int) (e : d.getD i (0, 0, 0) = (x, y, z)) (k : Int) : tab f (d.take (i + 1)) k = if k = x then z else tab f (d.take i) k := by
  rw [List.take_succ_eq_append_getElem h, tab_snoc]
  have e2 : d[i] = (x, y, z) := by rw [← e]; simp [List.getD, h]
  rw [e2]
theorem clash_step (l : List (Int × Int)) (d : List Chg) (i : Nat) (h : i < d.length) (x y z : Int) (e : d.getD i (0, 0, 0) = (x, y, z)) (hc : clashF l (d.take i) = false) (he : find x l = y) : clashF l (d.take (i + 1)) = false := by
  rw [List.take_succ_eq_append_getElem h]
  have e2 : d[i] = (x, y, z) := by rw [← e]; simp [List.getD, h]
  unfold clashF at hc ⊢
  rw [List.any_append, hc, e2]
  simp [he]
theorem clash_at (l : List (Int × Int)) (d : List Chg) (i : Nat) (h : i < d.length) (x y z : Int) (e : d.getD i (0, 0, 0) = (x, y, z)) (he : find x l ≠ y) : clashF l d = true := by
  unfold clashF
  rw [List.any_eq_true]
  refine ⟨(x, y, z), by rw [← e]; exact gmem d i h, by simpa using he⟩
theorem tab_fresh (f : Int → Int) (d : List Chg) (hf : Fine (-1) d) (i : Nat) (h : i < d.length) (x y z : Int) (e : d.getD i (0, 0, 0) = (x, y, z)) : tab f (d.take i) x = f x := by
  refine tab_none _ _ _ fun c hc hcx => ?_
  obtain ⟨j, hj, ej⟩ := List.mem_iff_getElem.1 hc
  rw [List.length_take] at hj
  have hji : j < i := by omega
  rw [List.getElem_take] at ej
  have hp := List.pairwise_iff_getElem.1 hf.2 j i (by omega) h hji
  have e2 : d[i] = (x, y, z) := by rw [← e]; simp [List.getD, h]
  rw [ej, e2] at hp
  have : c.1 < x := hp
  omega
end M
open Go.RowKit

theorem all_one (cs : Array Value) (f : Nat → Int) (h : cs.size = 100) (hc : ∀ i : Nat, i < 100 → cs[i]? = some (.int .i64 (f i))) : cs.all (·.oneCell') = true := by
  refine Array.all_eq_true_iff_forall_mem.2 fun v hv => ?_
  obtain ⟨j, hj, e⟩ := Array.mem_iff_getElem.1 hv
  have h2 := hc j (by rw [← h]; exact hj)
  rw [Array.getElem?_eq_getElem hj, e] at h2
  cases h2
  rfl

set_option maxRecDepth 100000 in
set_option maxHeartbeats 8000000 in
theorem patchOf_good (a : Option Addr) (n cap : Nat) (l : List (Int × Int)) (a2 : Option Addr) (m mcap : Nat) (d : List M.Chg) (w : World) (h : Rd w a n l) (hrc : Rc w a2 m d) (h0 : M.chk l = 0) (hf : M.fine d = true) :
    Calls Try.prog 25 #[.slice a n cap, .slice a2 m mcap] w fun e w' => HandsO w w' (M.patchV l d) (M.patchE l d) e := by
  obtain ⟨Z, hZ, hz⟩ := zeroTable
  have hn40 : n ≤ 40 := by rw [← h.1]; exact ((M.chk_zero l).1 h0).1
  have HFi : Hid (M.Fine (-1) d) := (M.fine_iff d).1 hf
  have hm100 : m ≤ 100 := by have := HFi.out.len (by omega); have h1 := hrc.1; omega
  have H := error_any a n cap l w h (by omega)
  rw [h0] at H
  have HH : Hid (Calls Try.prog 52 #[.slice a n cap] w fun e w' => e = .returned (.int .i64 0) ∧ Below w.heap.size w w') := H
  have HR : Hid (Rd w a n l) := h
  have HD : Hid (Rc w a2 m d) := hrc
  have HE : Hid (M.patchE l d = if M.clashF l d = true then 7 else if 40 < (M.ofTab (M.tab (fun k => M.find k l) d)).length then 2 else 0) := by unfold Hid M.patchE; rw [h0, hf]; simp
  have HFn : Hid (M.fine d = true) := hf
  clear H h h0 hrc hf
  go_enter Try.func25, Try.ntmps25
  go_wp2_with fail
  refine HH.out.mono ?_
  rintro e w1 ⟨rfl, b1⟩
  have K := cfine_any a2 m mcap d w1 (HD.out.below b1 (Nat.le_refl _)) (by omega)
  rw [HFn.out] at K
  have KK : Hid (Calls Try.prog 53 #[.slice a2 m mcap] w1 fun e w' => e = .returned (.bool true) ∧ Below w1.heap.size w1 w') := K
  clear K
  go_wp2_with fail
  refine KK.out.mono ?_
  rintro e w1b ⟨rfl, b1b⟩
  have c1 := below2 b1 b1b
  clear KK b1 b1b
  go_wp2_with fail
  refine (spread_any a n cap l _ (HR.out.below c1 (Nat.le_refl _)) hn40).mono ?_
  rintro e w2 ⟨cs, rfl, hcs, hcf, b2⟩
  have q2 := below2 c1 b2
  have hs2 := q2.size
  have HCs : Aside (cs.size = 100) := hcs
  have HCf : Aside (∀ i : Nat, i < 100 → cs[i]? = some (.int .i64 (M.find i l))) := hcf
  clear hcs hcf c1 b2
  obtain ⟨S, hS⟩ : ∃ S, S = w2.heap.size := ⟨_, rfl⟩
  obtain ⟨W3, hW3⟩ : ∃ W3, W3 = (w2.alloc (.cells Z 80)).setRow S cs := ⟨_, rfl⟩
  have hrow3 : Aside (W3.heap[S]? = some (.cells cs 80 (0, 0))) := by unfold Aside; rw [hW3, hS]; exact setRow_heap _ _ Z cs _ _ (heap_alloc_new w2 _)
  have b3 : Below w2.heap.size w2 W3 := by rw [hW3, hS]; exact below_setRow ((Below.refl _ _).alloc (Nat.le_refl _) _) (Nat.le_refl _) cs
  have q3 := below2 q2 b3
  have hwS : w.heap.size ≤ S := by rw [hS]; exact hs2
  have HW3 : Hid (W3 = (w2.alloc (.cells Z 80)).setRow S cs) := hW3
  have HS : Hid (S = w2.heap.size) := hS
  have HZ0 : Hid (Z.size = 100) := hZ
  have hone : Hid (cs.all (·.oneCell') = true) := all_one cs _ HCs.out HCf.out
  clear hW3 hS hZ b3 q2 hs2
  go_wp2_with (refine wpList_store_row rfl 80 _ _ rfl w2.heap.size cs rfl rfl 80 Z (heap_alloc_new w2 _) (by rw [HCs.out]; exact infoTable) (by rw [HCs.out]; exact HZ0.out) hone.out ?_; rw [← HS.out, ← HW3.out])
  go_loopg [8] m (fun g ix wr => ∃ (i : Nat) (ys : Array Value), i + g = m ∧ ix = .int .i64 i ∧ Aside (wr.heap[S]? = some (.cells ys 80 (0, 0))) ∧ Aside (ys.size = 100) ∧ Aside (∀ k : Nat, k < 100 → ys[k]? = some (.int .i64 (M.tab (fun k => M.find k l) (d.take i) k))) ∧ Aside (M.clashF l (d.take i) = false) ∧ Below w.heap.size w wr)
  case atStart => exact ⟨0, cs, by omega, rfl, hrow3, HCs, fun k hk => HCf.out k hk, rfl, q3⟩
  case round =>
    obtain ⟨i, ys, hig, rfl, RY, HYs, HYf, HCl, hbel⟩ := hrel
    by_cases hlt : i < m
    · have hii : (i : Int) < (m : Int) := by omega
      have hid : i < d.length := by rw [HD.out.1]; exact hlt
      obtain ⟨b, off, rfl, hB, hc⟩ : ∃ b off, a2 = some ⟨b, off, none⟩ ∧ b < w.heap.size ∧ ∀ i, i < m → w.cell? ⟨b, off + i * 3, none⟩ = some (.int .i64 (d.getD i (0, 0, 0)).1) ∧ w.cell? ⟨b, off + i * 3 + 1, none⟩ = some (.int .i64 (d.getD i (0, 0, 0)).2.1) ∧ w.cell? ⟨b, off + i * 3 + 2, none⟩ = some (.int .i64 (d.getD i (0, 0, 0)).2.2) := by
        rcases HD.out.cases with ⟨h0, _⟩ | ⟨b, off, e, _, _, hB, hc⟩
        · omega
        · exact ⟨b, off, e, hB, hc⟩
      obtain ⟨x, y, z, hxyz⟩ : ∃ x y z, d.getD i (0, 0, 0) = (x, y, z) := ⟨_, _, _, rfl⟩
      have hx := HFi.out.1 _ (M.gmem d i hid)
      rw [hxyz] at hx
      obtain ⟨kx, rfl⟩ : ∃ kx : Nat, x = (kx : Int) := ⟨x.toNat, by have : -1 < x := hx.1; omega⟩
      have hkx : kx < 100 := by have : (kx : Int) ≤ 99 := hx.2.1; omega
      have hkxi : (kx : Int) < 100 := by omega
      obtain ⟨k1, k2, k3⟩ := hc i hlt
      rw [hxyz] at k1 k2 k3
      have p0 : wr.cell? ⟨b, off + i * 3, none⟩ = some (.int .i64 (kx : Int)) := (hbel.cell (p := ⟨b, off + i * 3, none⟩) hB).trans k1
      have p1 : wr.cell? ⟨b, off + i * 3 + 1, none⟩ = some (.int .i64 y) := (hbel.cell (p := ⟨b, off + i * 3 + 1, none⟩) hB).trans k2
      have p2 : wr.cell? ⟨b, off + i * 3 + 2, none⟩ = some (.int .i64 z) := (hbel.cell (p := ⟨b, off + i * 3 + 2, none⟩) hB).trans k3
      obtain ⟨u, hu⟩ : ∃ u, u = M.find (kx : Int) l := ⟨_, rfl⟩
      have cY : wr.cell? ⟨S, kx, none⟩ = some (.int .i64 u) := by rw [cell_of_row wr _ kx ys _ _ RY.out, HYf.out kx hkx, M.tab_fresh _ d HFi.out i hid _ y z hxyz, hu]
      have fY : wr.frozen? ⟨S, kx, none⟩ = false := frozen_of_row wr _ kx ys _ RY.out
      have hbS : b ≠ S := by omega
      have HX : Hid (d.getD i (0, 0, 0) = ((kx : Int), y, z)) := hxyz
      by_cases hy : u = y
      · have hyb : (u != y) = false := by simp [hy]
        have HCl2 : Aside (M.clashF l (d.take (i + 1)) = false) := M.clash_step l d i hid _ y z hxyz HCl.out (hu.symm.trans hy)
        have HYs' : Aside ((ys.setIfInBounds kx (.int .i64 z)).size = 100) := by simpa [Aside] using HYs.out
        have HYf' : Aside (∀ k : Nat, k < 100 → (ys.setIfInBounds kx (.int .i64 z))[k]? = some (.int .i64 (M.tab (fun k => M.find k l) (d.take (i + 1)) k))) := fun k hk => by
          rw [set_get ys kx k _ (by rw [HYs.out]; exact hkx), M.tab_step _ d i hid _ y z hxyz]
          by_cases e : kx = k
          · subst e; rw [if_pos rfl, if_pos rfl]
          · rw [if_neg e, if_neg (by omega)]; exact HYf.out k hk
        have RY2 : Hid (∀ W : World, W.heap = wr.heap → (W.setCell ⟨S, kx, none⟩ (.int .i64 z)).heap[S]? = some (.cells (ys.setIfInBounds kx (.int .i64 z)) 80 (0, 0))) := fun W hW => heap_setCell_same W _ kx ys _ _ (by rw [hW]; exact RY.out)
        clear hy hu hxyz hx hc k1 k2 k3
        go_wp2_with fail
        go_quiet (fail)
        go_wp2_with fail
        go_region
        go_wp2
        go_roundg (gk - 1)
        case measure => omega
        case rel => exact ⟨i + 1, _, by omega, by go_num, RY2.out _ rfl, HYs', HYf', HCl2, (below_drewN hbel _).setCell (p := ⟨S, kx, none⟩) hwS _⟩
      · have hyb : (u != y) = true := by simp [hy]
        have e1 : M.patchE l d = 7 := by rw [HE.out, if_pos (M.clash_at l d i hid _ y z hxyz (by rw [← hu]; exact hy))]
        have F : Hid (∀ W, Below w.heap.size w W → HandsO w W (M.patchV l d) (M.patchE l d) (.returned (.tuple #[.slice none 0 0, .int .i64 7]))) := fun W hW => by unfold M.patchV; rw [e1, if_neg (by omega)]; exact HandsO.err 7 hW
        clear hy hu hxyz hx hc k1 k2 k3 e1
        go_wp2_with fail
        go_quiet (fail)
        go_wp2
        go_ret2
        exact F.out _ (below_drewN hbel _)
    · have e1 : d.take i = d := List.take_of_length_le (by rw [HD.out.1]; omega)
      have HYf2 := HYf.out
      have HCl2 := HCl.out
      rw [e1] at HYf2 HCl2
      have HFo := folded_any ys (fun k : Nat => M.tab (fun k => M.find k l) d (k : Int)) wr HYf2
      have HFF : Hid (Calls Try.prog 55 #[.agg ys] wr fun e w' => ∃ v, e = .returned v ∧ Own w' (wr.heap.size + 1) v (M.ofTab (M.tab (fun k => M.find k l) d)) ∧ Below wr.heap.size wr w') := HFo
      have HCl3 : Hid (M.clashF l d = false) := HCl2
      clear e1 HYf2 HCl2 HFo
      go_wp2_with (refine wpList_load_row rfl 80 _ rfl S rfl 80 ys _ _ RY.out Try.underlying80 rfl (by rw [HYs.out]; exact infoTable) ?_)
      refine HFF.out.mono ?_
      rintro e w8 ⟨v, rfl, ho8, hb8⟩
      obtain ⟨ra, rc, rfl, hr8, hn8, hc8, hz8⟩ := ho8.rd
      obtain ⟨rn, hrn⟩ : ∃ rn, rn = (M.ofTab (M.tab (fun k => M.find k l) d)).length := ⟨_, rfl⟩
      rw [← hrn] at hr8 hn8 hz8 ⊢
      have b8 : Below w.heap.size w w8 := hbel.trans (hb8.mono hbel.size)
      have hrm : rn ≤ 9223372036854775807 := by unfold maxLen at hc8; omega
      have hown : Own w8 w.heap.size (.slice ra rn rc) (M.ofTab (M.tab (fun k => M.find k l) d)) := by rw [hrn]; exact Own.lower ho8 (by have := hbel.size; omega)
      by_cases h40 : 40 < rn
      · have e0 : M.patchE l d = 2 := by rw [HE.out, if_neg (by rw [HCl3.out]; simp), if_pos (by rw [← hrn]; exact h40)]
        have F : Hid (HandsO w w8 (M.patchV l d) (M.patchE l d) (.returned (.tuple #[.slice none 0 0, .int .i64 2]))) := by
          unfold M.patchV
          rw [e0, if_neg (by omega)]
          exact HandsO.err 2 b8
        clear e0 hr8 hz8 hb8 ho8 hrn HFF hown
        go_wp2
        go_ret2
        exact F.out
      · have e0 : M.patchE l d = 0 := by rw [HE.out, if_neg (by rw [HCl3.out]; simp), if_neg (by rw [← hrn]; exact h40)]
        have F : Hid (HandsO w w8 (M.patchV l d) (M.patchE l d) (.returned (.tuple #[.slice ra rn rc, .int .i64 0]))) := by
          unfold M.patchV
          rw [e0, if_pos rfl]
          exact ⟨ra, rn, rc, rfl, hr8, hn8, hc8, ⟨hz8, hown⟩, b8⟩
        clear e0 hr8 hz8 hb8 ho8 hrn HFF hown
        go_wp2
        go_ret2
        exact F.out

set_option maxHeartbeats 4000000 in
theorem patchOf_own (a : Option Addr) (n cap : Nat) (l : List (Int × Int)) (a2 : Option Addr) (m mcap : Nat) (d : List M.Chg) (w : World) (h : Rd w a n l) (hn : n ≤ 9223372036854775807) (hrc : Rc w a2 m d) (hm : m ≤ 9223372036854775807) :
    Calls Try.prog 25 #[.slice a n cap, .slice a2 m mcap] w fun e w' => HandsO w w' (M.patchV l d) (M.patchE l d) e := by
  by_cases h0 : M.chk l = 0
  · by_cases hf : M.fine d = true
    · exact patchOf_good a n cap l a2 m mcap d w h hrc h0 hf
    · have hf2 : M.fine d = false := by simpa using hf
      have e1 : M.patchE l d = 1 := by unfold M.patchE; rw [h0, hf2]; simp
      have e2 : M.patchV l d = [] := by unfold M.patchV; rw [e1]; simp
      rw [e1, e2]
      have H := error_any a n cap l w h hn
      rw [h0] at H
      have HH : Hid (Calls Try.prog 52 #[.slice a n cap] w fun e w' => e = .returned (.int .i64 0) ∧ Below w.heap.size w w') := H
      have HD : Hid (Rc w a2 m d) := hrc
      have HF : Hid (M.fine d = false) := hf2
      clear H h h0 hrc hf hf2 e1 e2
      go_enter Try.func25, Try.ntmps25
      go_wp2_with fail
      refine HH.out.mono ?_
      rintro e w1 ⟨rfl, b1⟩
      have K := cfine_any a2 m mcap d w1 (HD.out.below b1 (Nat.le_refl _)) hm
      rw [HF.out] at K
      have KK : Hid (Calls Try.prog 53 #[.slice a2 m mcap] w1 fun e w' => e = .returned (.bool false) ∧ Below w1.heap.size w1 w') := K
      clear K
      go_wp2_with fail
      refine KK.out.mono ?_
      rintro e w2 ⟨rfl, b2⟩
      have c2 := below2 b1 b2
      go_wp2
      go_ret2
      exact HandsO.err 1 c2
  · have e1 : M.patchE l d = M.chk l := by unfold M.patchE; rw [if_pos h0]
    have e2 : M.patchV l d = [] := by unfold M.patchV; rw [e1, if_neg h0]
    rw [e1, e2]
    obtain ⟨E, hE⟩ : ∃ E, E = M.chk l := ⟨_, rfl⟩
    have H := error_any a n cap l w h hn
    rw [← hE] at H h0 ⊢
    have hEb : (E != 0) = true := by simp [h0]
    have HH : Hid (Calls Try.prog 52 #[.slice a n cap] w fun e w' => e = .returned (.int .i64 E) ∧ Below w.heap.size w w') := H
    clear H h h0 hrc e1 e2 hE
    go_enter Try.func25, Try.ntmps25
    go_wp2_with fail
    refine HH.out.mono ?_
    rintro e w1 ⟨rfl, b1⟩
    go_wp2
    go_ret2
    exact HandsO.err E b1
theorem patchOf_any (a : Option Addr) (n cap : Nat) (l : List (Int × Int)) (a2 : Option Addr) (m mcap : Nat) (d : List M.Chg) (w : World) (h : Rd w a n l) (hn : n ≤ 9223372036854775807) (hrc : Rc w a2 m d) (hm : m ≤ 9223372036854775807) :
    Calls Try.prog 25 #[.slice a n cap, .slice a2 m mcap] w fun e w' => Hands w w' (M.patchV l d) (M.patchE l d) e :=
  (patchOf_own a n cap l a2 m mcap d w h hn hrc hm).mono fun _ _ h => h.hands
end Go.Proofs.Ytcgpgflnihjpiac
