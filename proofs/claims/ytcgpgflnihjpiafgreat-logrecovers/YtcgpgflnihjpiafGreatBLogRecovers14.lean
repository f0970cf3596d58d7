/- The reference's PatchOf. -/
import Derived.Test.YtcgpgflnihjpiafGreatBLogRecovers13
import Derived.Test.YtcgpgflnihjpiafGreatBLogRecovers03
import Derived.Test.YtcgpgflnihjpiafGreatBLogRecovers11
namespace Go.Proofs.YtcgpgflnihjpiafGreat
namespace M
theorem tab_step (f : Int → Int) (d : List Chg) (i : Nat) (h : i < d.length) (x y z : Int) (e : d.getD i (0, 0, 0) = (x, y, z)) (k : Int) : tab f (d.take (i + 1)) k = if k = x then z else tab f (d.take i) k := by
  rw [List.take_succ_eq_append_getElem h, tab_snoc]
  have e2 : d[i] = (x, y, z) := by rw [← e]; simp [List.getD, h]
  rw [e2]
theorem clash_step (l : List (Int × Int)) (d : List Chg) (i : Nat) (h : i < d.length) (x y z : Int) (e : d.getD i (0, 0, 0) = (x, y, z)) (hc : clashF l (d.take i) = false) (he : find x l = y) : clashF l (d.take (i + 1)) = false := by
  rw [List.take_succ_eq_append_getElem h]
  have e2 : d[i] = (x, y, z) := by rw [← e]; simp [List.getD, h]
  unfold clashF at hc ⊢
  rw [List.any_append, hc, e2]
  simp [he]
theorem clash_at (l : List (Int × Int)) (d : List Chg) (i : Nat) (h : i < d.length) (x y z : Int) (e : d.getD i (0, 0, 0) = (x, y, z)) (he : find x l ≠ y) : clashF l d = true := by
  unfold clashF
  rw [List.any_eq_true]
  refine ⟨(x, y, z), by rw [← e]; exact gmem d i h, by simpa using he⟩
theorem tab_fresh (f : Int → Int) (d : List Chg) (hf : Fine (-1) d) (i : Nat) (h : i < d.length) (x y z : Int) (e : d.getD i (0, 0, 0) = (x, y, z)) : tab f (d.take i) x = f x := by
  refine tab_none _ _ _ fun c hc hcx => ?_
  obtain ⟨j, hj, ej⟩ := List.mem_iff_getElem.1 hc
  rw [List.length_take] at hj
  have hji : j < i := by omega
  rw [List.getElem_take] at ej
  have hp := List.pairwise_iff_getElem.1 hf.2 j i (by omega) h hji
  have e2 : d[i] = (x, y, z) := by rw [← e]; simp [List.getD, h]
  rw [ej, e2] at hp
  have : c.1 < x := hp
  omega
end M
open Go.RowKit

theorem all_one (cs : Array Value) (f : Nat → Int) (h : cs.size = 100) (hc : ∀ i : Nat, i < 100 → cs[i]? = some (.int .i64 (f i))) : cs.all (·.oneCell') = true := by
  refine Array.all_eq_true_iff_forall_mem.2 fun v hv => ?_
  obtain ⟨j, hj, e⟩ := Array.mem_iff_getElem.1 hv
  have h2 := hc j (by rw [← h]; exact hj)
  rw [Array.getElem?_eq_getElem hj, e] at h2
  cases h2
  rfl

set_option maxRecDepth 100000 in
set_option maxHeartbeats 8000000 in
theorem patchOf_good (a : Option Addr) (n cap : Nat) (l : List (Int × Int)) (a2 : Option Addr) (m mcap : Nat) (d : List M.Chg) (w : World) (h : Rd w a n l) (hrc : Rc w a2 m d) (h0 : M.chk l = 0) (hf : M.fine d = true) :
    Calls Tryz.prog 99 #[.slice a n cap, .slice a2 m mcap] w fun e w' => HandsO w w' (M.patchV l d) (M.patchE l d) e := by
  obtain ⟨Z, hZ, hz⟩ := zeroTable
  have hn40 : n ≤ 40 := by rw [← h.1]; exact ((M.chk_zero l).1 h0).1
  have HFi : Hid (M.Fine (-1) d) := (M.fine_iff d).1 hf
  have hm100 : m ≤ 100 := by have := HFi.out.len (by omega); have h1 := hrc.1; omega
  have H := error_any a n cap l w h (by omega)
  rw [h0] at H
  have HH : Hid (Calls Tryz.prog 126 #[.slice a n cap] w fun e w' => e = .returned (.int .i64 0) ∧ Below w.heap.size w w') := H
  have HR : Hid (Rd w a n l) := h
  have HD : Hid (Rc w a2 m d) := hrc
  have HE : Hid (M.patchE l d = if M.clashF l d = true then 7 else if 40 < (M.ofTab (M.tab (fun k => M.find k l) d)).length then 2 else 0) := by unfold Hid M.patchE; rw [h0, hf]; simp
  have HFn : Hid (M.fine d = true) := hf
  clear H h h0 hrc hf
  go_enter Tryz.func99, Tryz.ntmps99
  go_wp2_with fail
  refine HH.out.mono ?_
  rintro e w1 ⟨rfl, b1⟩
  have K := cfine_any a2 m mcap d w1 (HD.out.below b1 (Nat.le_refl _)) (by omega)
  rw [HFn.out] at K
  have KK : Hid (Calls Tryz.prog 98 #[.slice a2 m mcap] w1 fun e w' => e = .returned (.bool true) ∧ Below w1.heap.size w1 w') := K
  clear K
  go_wp2_with fail
  refine KK.out.mono ?_
  rintro e w1b ⟨rfl, b1b⟩
  have c1 := below2 b1 b1b
  clear KK b1 b1b
  go_wp2_with fail
  refine (spread_any a n cap l _ (HR.out.below c1 (Nat.le_refl _)) hn40).mono ?_
  rintro e w2 ⟨cs, rfl, hcs, hcf, b2⟩
  have q2 := below2 c1 b2
  have hs2 := q2.size
  have HCs : Aside (cs.size = 100) := hcs
  have HCf : Aside (∀ i : Nat, i < 100 → cs[i]? = some (.int .i64 (M.find i l))) := hcf
  clear hcs hcf c1 b2
  obtain ⟨S, hS⟩ : ∃ S, S = w2.heap.size := ⟨_, rfl⟩
  obtain ⟨W3, hW3⟩ : ∃ W3, W3 = (w2.alloc (.cells Z 166)).setRow S cs := ⟨_, rfl⟩
  have hrow3 : Aside (W3.heap[S]? = some (.cells cs 166 (0, 0))) := by unfold Aside; rw [hW3, hS]; exact setRow_heap _ _ Z cs _ _ (heap_alloc_new w2 _)
  have b3 : Below w2.heap.size w2 W3 := by rw [hW3, hS]; exact below_setRow ((Below.refl _ _).alloc (Nat.le_refl _) _) (Nat.le_refl _) cs
  have q3 := below2 q2 b3
  have hwS : w.heap.size ≤ S := by rw [hS]; exact hs2
  have HW3 : Hid (W3 = (w2.alloc (.cells Z 166)).setRow S cs) := hW3
  have HS : Hid (S = w2.heap.size) := hS
  have HZ0 : Hid (Z.size = 100) := hZ
  have hone : Hid (cs.all (·.oneCell') = true) := all_one cs _ HCs.out HCf.out
  clear hW3 hS hZ b3 q2 hs2
  go_wp2_with (refine wpList_store_row rfl 166 _ _ rfl w2.heap.size cs rfl rfl 166 Z (heap_alloc_new w2 _) (by rw [HCs.out]; exact infoTable) (by rw [HCs.out]; exact HZ0.out) hone.out ?_; rw [← HS.out, ← HW3.out])
  go_loopg [8] m (fun g ix wr => ∃ (i : Nat) (ys : Array Value), i + g = m ∧ ix = .int .i64 i ∧ Aside (wr.heap[S]? = some (.cells ys 166 (0, 0))) ∧ Aside (ys.size = 100) ∧ Aside (∀ k : Nat, k < 100 → ys[k]? = some (.int .i64 (M.tab (fun k => M.find k l) (d.take i) k))) ∧ Aside (M.clashF l (d.take i) = false) ∧ Below w.heap.size w wr)
  case atStart => exact ⟨0, cs, by omega, rfl, hrow3, HCs, fun k hk => HCf.out k hk, rfl, q3⟩
  case round =>
    obtain ⟨i, ys, hig, rfl, RY, HYs, HYf, HCl, hbel⟩ := hrel
    by_cases hlt : i < m
    · have hii : (i : Int) < (m : Int) := by omega
      have hid : i < d.length := by rw [HD.out.1]; exact hlt
      obtain ⟨b, off, rfl, hB, hc⟩ : ∃ b off, a2 = some ⟨b, off, none⟩ ∧ b < w.heap.size ∧ ∀ i, i < m → w.cell? ⟨b, off + i * 3, none⟩ = some (.int .i64 (d.getD i (0, 0, 0)).1) ∧ w.cell? ⟨b, off + i * 3 + 1, none⟩ = some (.int .i64 (d.getD i (0, 0, 0)).2.1) ∧ w.cell? ⟨b, off + i * 3 + 2, none⟩ = some (.int .i64 (d.getD i (0, 0, 0)).2.2) := by
        rcases HD.out.cases with ⟨h0, _⟩ | ⟨b, off, e, _, _, hB, hc⟩
        · omega
        · exact ⟨b, off, e, hB, hc⟩
      obtain ⟨x, y, z, hxyz⟩ : ∃ x y z, d.getD i (0, 0, 0) = (x, y, z) := ⟨_, _, _, rfl⟩
      have hx := HFi.out.1 _ (M.gmem d i hid)
      rw [hxyz] at hx
      obtain ⟨kx, rfl⟩ : ∃ kx : Nat, x = (kx : Int) := ⟨x.toNat, by have : -1 < x := hx.1; omega⟩
      have hkx : kx < 100 := by have : (kx : Int) ≤ 99 := hx.2.1; omega
      have hkxi : (kx : Int) < 100 := by omega
      obtain ⟨k1, k2, k3⟩ := hc i hlt
      rw [hxyz] at k1 k2 k3
      have p0 : wr.cell? ⟨b, off + i * 3, none⟩ = some (.int .i64 (kx : Int)) := (hbel.cell (p := ⟨b, off + i * 3, none⟩) hB).trans k1
      have p1 : wr.cell? ⟨b, off + i * 3 + 1, none⟩ = some (.int .i64 y) := (hbel.cell (p := ⟨b, off + i * 3 + 1, none⟩) hB).trans k2
      have p2 : wr.cell? ⟨b, off + i * 3 + 2, none⟩ = some (.int .i64 z) := (hbel.cell (p := ⟨b, off + i * 3 + 2, none⟩) hB).trans k3
      obtain ⟨u, hu⟩ : ∃ u, u = M.find (kx : Int) l := ⟨_, rfl⟩
      have cY : wr.cell? ⟨S, kx, none⟩ = some (.int .i64 u) := by rw [cell_of_row wr _ kx ys _ _ RY.out, HYf.out kx hkx, M.tab_fresh _ d HFi.out i hid _ y z hxyz, hu]
      have fY : wr.frozen? ⟨S, kx, none⟩ = false := frozen_of_row wr _ kx ys _ RY.out
      have hbS : b ≠ S := by omega
      have HX : Hid (d.getD i (0, 0, 0) = ((kx : Int), y, z)) := hxyz
      by_cases hy : u = y
      · have hyb : (u != y) = false := by simp [hy]
        have HCl2 : Aside (M.clashF l (d.take (i + 1)) = false) := M.clash_step l d i hid _ y z hxyz HCl.out (hu.symm.trans hy)
        have HYs' : Aside ((ys.setIfInBounds kx (.int .i64 z)).size = 100) := by simpa [Aside] using HYs.out
        have HYf' : Aside (∀ k : Nat, k < 100 → (ys.setIfInBounds kx (.int .i64 z))[k]? = some (.int .i64 (M.tab (fun k => M.find k l) (d.take (i + 1)) k))) := fun k hk => by
          rw [set_get ys kx k _ (by rw [HYs.out]; exact hkx), M.tab_step _ d i hid _ y z hxyz]
          by_cases e : kx = k
          · subst e; rw [if_pos rfl, if_pos rfl]
          · rw [if_neg e, if_neg (by omega)]; exact HYf.out k hk
        have RY2 : Hid (∀ W : World, W.heap = wr.heap → (W.setCell ⟨S, kx, none⟩ (.int .i64 z)).heap[S]? = some (.cells (ys.setIfInBounds kx (.int .i64 z)) 166 (0, 0))) := fun W hW => heap_setCell_same W _ kx ys _ _ (by rw [hW]; exact RY.out)
        clear hy hu hxyz hx hc k1 k2 k3
        go_wp2_with fail
        go_quiet (fail)
        go_wp2_with fail
        go_region
        go_wp2
        go_roundg (gk - 1)
        case measure => omega
        case rel => exact ⟨i + 1, _, by omega, by go_num, RY2.out _ rfl, HYs', HYf', HCl2, (below_drewN hbel _).setCell (p := ⟨S, kx, none⟩) hwS _⟩
      · have hyb : (u != y) = true := by simp [hy]
        have e1 : M.patchE l d = 7 := by rw [HE.out, if_pos (M.clash_at l d i hid _ y z hxyz (by rw [← hu]; exact hy))]
        have F : Hid (∀ W, Below w.heap.size w W → HandsO w W (M.patchV l d) (M.patchE l d) (.returned (.tuple #[.slice none 0 0, .int .i64 7]))) := fun W hW => by unfold M.patchV; rw [e1, if_neg (by omega)]; exact HandsO.err 7 hW
        clear hy hu hxyz hx hc k1 k2 k3 e1
        go_wp2_with fail
        go_quiet (fail)
        go_wp2
        go_ret2
        exact F.out _ (below_drewN hbel _)
    · have e1 : d.take i = d := List.take_of_length_le (by rw [HD.out.1]; omega)
      have HYf2 := HYf.out
      have HCl2 := HCl.out
      rw [e1] at HYf2 HCl2
      have HFo := folded_any ys (fun k : Nat => M.tab (fun k => M.find k l) d (k : Int)) wr HYf2
      have HFF : Hid (Calls Tryz.prog 128 #[.agg ys] wr fun e w' => ∃ v, e = .returned v ∧ Own w' (wr.heap.size + 1) v (M.ofTab (M.tab (fun k => M.find k l) d)) ∧ Below wr.heap.size wr w') := HFo
      have HCl3 : Hid (M.clashF l d = false) := HCl2
      clear e1 HYf2 HCl2 HFo
      go_wp2_with (refine wpList_load_row rfl 166 _ rfl S rfl 166 ys _ _ RY.out Tryz.underlying166 rfl (by rw [HYs.out]; exact infoTable) ?_)
      refine HFF.out.mono ?_
      rintro e w8 ⟨v, rfl, ho8, hb8⟩
      obtain ⟨ra, rc, rfl, hr8, hn8, hc8, hz8⟩ := ho8.rd
      obtain ⟨rn, hrn⟩ : ∃ rn, rn = (M.ofTab (M.tab (fun k => M.find k l) d)).length := ⟨_, rfl⟩
      rw [← hrn] at hr8 hn8 hz8 ⊢
      have b8 : Below w.heap.size w w8 := hbel.trans (hb8.mono hbel.size)
      have hrm : rn ≤ 9223372036854775807 := by unfold maxLen at hc8; omega
      have hown : Own w8 w.heap.size (.slice ra rn rc) (M.ofTab (M.tab (fun k => M.find k l) d)) := by rw [hrn]; exact Own.lower ho8 (by have := hbel.size; omega)
      by_cases h40 : 40 < rn
      · have e0 : M.patchE l d = 2 := by rw [HE.out, if_neg (by rw [HCl3.out]; simp), if_pos (by rw [← hrn]; exact h40)]
        have F : Hid (HandsO w w8 (M.patchV l d) (M.patchE l d) (.returned (.tuple #[.slice none 0 0, .int .i64 2]))) := by
          unfold M.patchV
          rw [e0, if_neg (by omega)]
          exact HandsO.err 2 b8
        clear e0 hr8 hz8 hb8 ho8 hrn HFF hown
        go_wp2
        go_ret2
        exact F.out
      · have e0 : M.patchE l d = 0 := by rw [HE.out, if_neg (by rw [HCl3.out]; simp), if_neg (by rw [← hrn]; exact h40)]
        have F : Hid (HandsO w w8 (M.patchV l d) (M.patchE l d) (.returned (.tuple #[.slice ra rn rc, .int .i64 0]))) := by
          unfold M.patchV
          rw [e0, if_pos rfl]
          exact ⟨ra, rn, rc, rfl, hr8, hn8, hc8, ⟨hz8, hown⟩, b8⟩
        clear e0 hr8 hz8 hb8 ho8 hrn HFF hown
        go_wp2
        go_ret2
        exact F.out

set_option maxHeartbeats 4000000 in
theorem patchOf_own (a : Option Addr) (n cap : Nat) (l : List (Int × Int)) (a2 : Option Addr) (m mcap : Nat) (d : List M.Chg) (w : World) (h : Rd w a n l) (hn : n ≤ 9223372036854775807) (hrc : Rc w a2 m d) (hm : m ≤ 9223372036854775807) :
    Calls Tryz.prog 99 #[.slice a n cap, .slice a2 m mcap] w fun e w' => HandsO w w' (M.patchV l d) (M.patchE l d) e := by
  by_cases h0 : M.chk l = 0
  · by_cases hf : M.fine d = true
    · exact patchOf_good a n cap l a2 m mcap d w h hrc h0 hf
    · have hf2 : M.fine d = false := by simpa using hf
      have e1 : M.patchE l d = 1 := by unfold M.patchE; rw [h0, hf2]; simp
      have e2 : M.patchV l d = [] := by unfold M.patchV; rw [e1]; simp
      rw [e1, e2]
      have H := error_any a n cap l w h hn
      rw [h0] at H
      have HH : Hid (Calls Tryz.prog 126 #[.slice a n cap] w fun e w' => e = .returned (.int .i64 0) ∧ Below w.heap.size w w') := H
      have HD : Hid (Rc w a2 m d) := hrc
      have HF : Hid (M.fine d = false) := hf2
      clear H h h0 hrc hf hf2 e1 e2
      go_enter Tryz.func99, Tryz.ntmps99
      go_wp2_with fail
      refine HH.out.mono ?_
      rintro e w1 ⟨rfl, b1⟩
      have K := cfine_any a2 m mcap d w1 (HD.out.below b1 (Nat.le_refl _)) hm
      rw [HF.out] at K
      have KK : Hid (Calls Tryz.prog 98 #[.slice a2 m mcap] w1 fun e w' => e = .returned (.bool false) ∧ Below w1.heap.size w1 w') := K
      clear K
      go_wp2_with fail
      refine KK.out.mono ?_
      rintro e w2 ⟨rfl, b2⟩
      have c2 := below2 b1 b2
      go_wp2
      go_ret2
      exact HandsO.err 1 c2
  · have e1 : M.patchE l d = M.chk l := by unfold M.patchE; rw [if_pos h0]
    have e2 : M.patchV l d = [] := by unfold M.patchV; rw [e1, if_neg h0]
    rw [e1, e2]
    obtain ⟨E, hE⟩ : ∃ E, E = M.chk l := ⟨_, rfl⟩
    have H := error_any a n cap l w h hn
    rw [← hE] at H h0 ⊢
    have hEb : (E != 0) = true := by simp [h0]
    have HH : Hid (Calls Tryz.prog 126 #[.slice a n cap] w fun e w' => e = .returned (.int .i64 E) ∧ Below w.heap.size w w') := H
    clear H h h0 hrc e1 e2 hE
    go_enter Tryz.func99, Tryz.ntmps99
    go_wp2_with fail
    refine HH.out.mono ?_
    rintro e w1 ⟨rfl, b1⟩
    go_wp2
    go_ret2
    exact HandsO.err E b1
theorem patchOf_any (a : Option Addr) (n cap : Nat) (l : List (Int × Int)) (a2 : Option Addr) (m mcap : Nat) (d : List M.Chg) (w : World) (h : Rd w a n l) (hn : n ≤ 9223372036854775807) (hrc : Rc w a2 m d) (hm : m ≤ 9223372036854775807) :
    Calls Tryz.prog 99 #[.slice a n cap, .slice a2 m mcap] w fun e w' => Hands w w' (M.patchV l d) (M.patchE l d) e :=
  (patchOf_own a n cap l a2 m mcap d w h hn hrc hm).mono fun _ _ h => h.hands
end Go.Proofs.YtcgpgflnihjpiafGreat

/- The reference's PutTo. -/
namespace Go.Proofs.YtcgpgflnihjpiafGreat
open Go.RowKit Go.Shelf Go.Maps

theorem M.wpE_at {C : List M.Com} {H : List M.Hd} {s : ByteArray} {d : List M.Chg} (hz : M.hchk C H s = 0) :
    (M.fine d = false → M.wpE C H s d = 1) ∧ (M.fine d = true → d.length = 0 → M.wpE C H s d = 9) ∧ (M.fine d = true → d.length ≠ 0 → C.length = 14 → M.wpE C H s d = 2) ∧ (M.fine d = true → d.length ≠ 0 → C.length ≠ 14 → M.wpE C H s d = M.patchE (C.getD (M.hat C H s).toNat ([], [])).1 d) := by
  have h14 := (M.dchk_zero (M.rchk_zero (M.hchk_zero hz).1).1).1
  unfold M.wpE
  refine ⟨fun h => ?_, fun h1 h2 => ?_, fun h1 h2 h3 => ?_, fun h1 h2 h3 => ?_⟩
  · simp [hz, h]
  · simp [hz, h1, h2]
  · simp [hz, h1, h2, h3]
  · have : ¬ 14 ≤ C.length := by omega
    simp [hz, h1, h2, this]

set_option maxRecDepth 100000 in
set_option maxHeartbeats 16000000 in
theorem putTo_any (a : Option Addr) (n cap : Nat) (C : List M.Com) (a2 : Option Addr) (n2 cap2 : Nat) (H : List M.Hd) (s : ByteArray) (a3 : Option Addr) (m3 cap3 : Nat) (d : List M.Chg) (w : World) (hV : RepoV w a n cap C a2 n2 cap2 H) (hrc : Rc w a3 m3 d) (hm3 : m3 ≤ 9223372036854775807) :
    Calls Tryz.prog 56 #[.agg #[.slice a n cap, .slice a2 n2 cap2], .string s, .slice a3 m3 cap3] w fun e w' => ∃ v, e = .returned (.tuple #[v, .int .i64 (M.wpE C H s d)]) ∧ RepoOwn w' w.heap.size v (M.wpC C H s d) (M.wpH C H s d) ∧ Below w.heap.size w w' := by
  obtain ⟨p, hp⟩ : ∃ p, p = w.heap.size := ⟨_, rfl⟩
  obtain ⟨R, hR⟩ : ∃ R, R = p + 1 := ⟨_, rfl⟩
  have I0 := InBox.new w a n cap C a2 n2 cap2 H hV.cm hV.hs
  obtain ⟨W, hW⟩ : ∃ W, W = (w.alloc (.cells #[.slice a n cap, .slice a2 n2 cap2] 25)).alloc (.cells #[.slice none 0 0, .slice none 0 0] 25) := ⟨_, rfl⟩
  have hb0 : Below (w.alloc (.cells #[.slice a n cap, .slice a2 n2 cap2] 25)).heap.size (w.alloc (.cells #[.slice a n cap, .slice a2 n2 cap2] 25)) W := by rw [hW]; exact (Below.refl _ _).alloc (Nat.le_refl _) _
  have I1 := I0.below hb0
  rw [← hp] at I1
  have hb : Below w.heap.size w W := by rw [hW]; exact ((Below.refl _ _).alloc (Nat.le_refl _) _).alloc (by simp) _
  have hsz : W.heap.size = R + 1 := by rw [hW, hR, hp]; simp
  have q2 : W.heap[R]? = some (.cells #[.slice none 0 0, .slice none 0 0] 25 (0, 0)) := by
    rw [hW, show R = (w.alloc (.cells #[.slice a n cap, .slice a2 n2 cap2] 25)).heap.size by rw [hR, hp]; simp]
    exact heap_alloc_new _ _
  have HI : Hid (InBox W p a n cap C a2 n2 cap2 H) := I1
  have HVW : Hid (RepoV W a n cap C a2 n2 cap2 H) := hV.later hb
  have HRc : Hid (Rc W a3 m3 d) := hrc.below hb (Nat.le_refl _)
  have c0 := I1.c0
  have c1 := I1.c1
  obtain ⟨z, hz⟩ : ∃ z, z = M.hchk C H s := ⟨_, rfl⟩
  obtain ⟨x, hx⟩ : ∃ x, x = M.hat C H s := ⟨_, rfl⟩
  have K0 := headOf_any a n cap C a2 n2 cap2 H s W I1.cm hV.nm I1.hs hV.hm
  rw [← hz, ← hx] at K0
  have KH : Hid (Calls Tryz.prog 97 #[.agg #[.slice a n cap, .slice a2 n2 cap2], .string s] W fun e w' => e = .returned (.tuple #[.int .i64 x, .int .i64 z]) ∧ Below W.heap.size W w') := K0
  have HZ : Aside (z = M.hchk C H s) := hz
  have HX : Aside (x = M.hat C H s) := hx
  have HQ2 : Hid (W.heap[R]? = some (.cells #[.slice none 0 0, .slice none 0 0] 25 (0, 0))) := q2
  have HW : Hid (W = (w.alloc (.cells #[.slice a n cap, .slice a2 n2 cap2] 25)).alloc (.cells #[.slice none 0 0, .slice none 0 0] 25)) := hW
  have HP : Aside (p = w.heap.size) := hp
  have HR : Aside (R = p + 1) := hR
  have HPR : Aside (w.heap.size ≤ p) := by unfold Aside; omega
  have HSz : Aside (W.heap.size = R + 1) := hsz
  have hpR : p < R := by omega
  have hdl : d.length = m3 := hrc.1
  have HDl : Aside (d.length = m3) := hdl
  have hnC : C.length = n := hV.cm.1
  have HNC : Aside (C.length = n) := hnC
  have hnm := hV.nm
  clear hW hp hR hV hrc hb0 I0 I1 K0 hz hx q2 hsz hdl hnC
  go_enter Tryz.func56, Tryz.ntmps56
  go_wp2_with fail
  rw [← HW.out, ← HP.out, ← HR.out]
  go_wp2_with fail
  refine KH.out.mono ?_
  rintro e w1 ⟨rfl, b1⟩
  have hb1 : Below w.heap.size w w1 := hb.trans (b1.mono hb.size)
  have hs1 := b1.size
  have hRl : R < w1.heap.size := by have := HSz.out; omega
  have r1 : w1.heap[R]? = some (.cells #[.slice none 0 0, .slice none 0 0] 25 (0, 0)) := (b1.block R (by have := HSz.out; omega)).trans HQ2.out
  have J1 := HI.out.below b1
  have d0 := J1.c0
  have d1 := J1.c1
  by_cases hz0 : z = 0
  · subst hz0
    have hZ0 : M.hchk C H s = 0 := HZ.out.symm
    have hr0 := (M.hchk_zero hZ0).1
    obtain ⟨t, ht⟩ : ∃ t, t = M.fine d := ⟨_, rfl⟩
    have K1 := cfine_any a3 m3 cap3 d w1 (HRc.out.below b1 (Nat.le_refl _)) hm3
    rw [← ht] at K1
    have KF : Hid (Calls Tryz.prog 98 #[.slice a3 m3 cap3] w1 fun e w' => e = .returned (.bool t) ∧ Below w1.heap.size w1 w') := K1
    have HT : Aside (t = M.fine d) := ht
    have HZ0 : Hid (M.hchk C H s = 0) := hZ0
    clear K1 ht hZ0 c0 c1 J1 KH
    go_wp2_with fail
    refine KF.out.mono ?_
    rintro e w2 ⟨rfl, b2⟩
    have hb2 : Below w.heap.size w w2 := hb1.trans (b2.mono hb1.size)
    have r2 : w2.heap[R]? = some (.cells #[.slice none 0 0, .slice none 0 0] 25 (0, 0)) := (b2.block R hRl).trans r1
    have hRl2 : R < w2.heap.size := (Array.getElem?_eq_some_iff.1 r2).1
    have bW2 : Below W.heap.size W w2 := b1.trans (b2.mono b1.size)
    have J2 := HI.out.below bW2
    have e0 := J2.c0
    have e1 := J2.c1
    have HJ2 : Hid (InBox w2 p a n cap C a2 n2 cap2 H) := J2
    clear d0 d1 b2 KF J2 r1
    cases t with
    | false =>
      have E : Aside (M.wpE C H s d = 1) := (M.wpE_at HZ0.out).1 HT.out.symm
      have EC : Aside (M.wpC C H s d = [] ∧ M.wpH C H s d = []) := ⟨by unfold M.wpC; rw [if_neg (by rw [E.out]; decide)], by unfold M.wpH; rw [if_neg (by rw [E.out]; decide)]⟩
      obtain ⟨g1, g2, g3⟩ := res_set r2 (.slice none 0 0) (.slice none 0 0)
      obtain ⟨X, hX⟩ : ∃ X, X = (w2.setCell ⟨R, 0, none⟩ (.slice none 0 0)).setCell ⟨R, 1, none⟩ (.slice none 0 0) := ⟨_, rfl⟩
      rw [← hX] at g1
      have bX : Below w.heap.size w X := by rw [hX]; exact (hb2.setCell (p := ⟨R, 0, none⟩) (by show _ ≤ R; have := HPR.out; omega) _).setCell (p := ⟨R, 1, none⟩) (by show _ ≤ R; have := HPR.out; omega) _
      have gX := g1
      have HX9 : Hid (X = (w2.setCell ⟨R, 0, none⟩ (.slice none 0 0)).setCell ⟨R, 1, none⟩ (.slice none 0 0)) := hX
      have HX0 : Aside (X.cell? ⟨R, 0, none⟩ = some (.slice none 0 0)) := by unfold Aside; rw [cell_of_row _ _ _ _ _ _ gX]; rfl
      have HX1 : Aside (X.cell? ⟨R, 1, none⟩ = some (.slice none 0 0)) := by unfold Aside; rw [cell_of_row _ _ _ _ _ _ gX]; rfl
      have x0 : w2.cell? ⟨R, 0, none⟩ = some (.slice none 0 0) := by rw [cell_of_row _ _ _ _ _ _ r2]; rfl
      have x1 : w2.cell? ⟨R, 1, none⟩ = some (.slice none 0 0) := by rw [cell_of_row _ _ _ _ _ _ r2]; rfl
      have f0 : w2.frozen? ⟨R, 0, none⟩ = false := frozen_of_row _ _ _ _ _ r2
      have f1 : w2.frozen? ⟨R, 1, none⟩ = false := frozen_of_row _ _ _ _ _ r2
      clear g1 g2 g3 hX gX r2
      go_wp2
      rw [← HX9.out]
      have y0 := HX0.out
      have y1 := HX1.out
      refine bodyPost_ret (v := .tuple #[.agg #[.slice none 0 0, .slice none 0 0], .int .i64 1]) (by simp [results, Tryz.results56, go_sem, y0, y1]) rfl ?_
      refine ⟨_, ret_two' E.out.symm, ?_, bX⟩
      rw [EC.out.1, EC.out.2]; exact RepoOwn.none _ _
    | true =>
      by_cases hm0 : m3 = 0
      · have E : Aside (M.wpE C H s d = 9) := (M.wpE_at HZ0.out).2.1 HT.out.symm (by rw [HDl.out]; exact hm0)
        have EC : Aside (M.wpC C H s d = [] ∧ M.wpH C H s d = []) := ⟨by unfold M.wpC; rw [if_neg (by rw [E.out]; decide)], by unfold M.wpH; rw [if_neg (by rw [E.out]; decide)]⟩
        have hmb : ((m3 : Int) == 0) = true := by simp [hm0]
        clear hm0
        obtain ⟨g1, g2, g3⟩ := res_set r2 (.slice none 0 0) (.slice none 0 0)
        obtain ⟨X, hX⟩ : ∃ X, X = (w2.setCell ⟨R, 0, none⟩ (.slice none 0 0)).setCell ⟨R, 1, none⟩ (.slice none 0 0) := ⟨_, rfl⟩
        rw [← hX] at g1
        have bX : Below w.heap.size w X := by rw [hX]; exact (hb2.setCell (p := ⟨R, 0, none⟩) (by show _ ≤ R; have := HPR.out; omega) _).setCell (p := ⟨R, 1, none⟩) (by show _ ≤ R; have := HPR.out; omega) _
        have gX := g1
        have HX9 : Hid (X = (w2.setCell ⟨R, 0, none⟩ (.slice none 0 0)).setCell ⟨R, 1, none⟩ (.slice none 0 0)) := hX
        have HX0 : Aside (X.cell? ⟨R, 0, none⟩ = some (.slice none 0 0)) := by unfold Aside; rw [cell_of_row _ _ _ _ _ _ gX]; rfl
        have HX1 : Aside (X.cell? ⟨R, 1, none⟩ = some (.slice none 0 0)) := by unfold Aside; rw [cell_of_row _ _ _ _ _ _ gX]; rfl
        have x0 : w2.cell? ⟨R, 0, none⟩ = some (.slice none 0 0) := by rw [cell_of_row _ _ _ _ _ _ r2]; rfl
        have x1 : w2.cell? ⟨R, 1, none⟩ = some (.slice none 0 0) := by rw [cell_of_row _ _ _ _ _ _ r2]; rfl
        have f0 : w2.frozen? ⟨R, 0, none⟩ = false := frozen_of_row _ _ _ _ _ r2
        have f1 : w2.frozen? ⟨R, 1, none⟩ = false := frozen_of_row _ _ _ _ _ r2
        clear g1 g2 g3 hX gX r2
        go_wp2
        rw [← HX9.out]
        have y0 := HX0.out
        have y1 := HX1.out
        refine bodyPost_ret (v := .tuple #[.agg #[.slice none 0 0, .slice none 0 0], .int .i64 9]) (by simp [results, Tryz.results56, go_sem, y0, y1]) rfl ?_
        refine ⟨_, ret_two' E.out.symm, ?_, bX⟩
        rw [EC.out.1, EC.out.2]; exact RepoOwn.none _ _
      · have hmb : ((m3 : Int) == 0) = false := by simp [hm0]
        have HM0 : Aside (d.length ≠ 0) := by unfold Aside; rw [HDl.out]; exact hm0
        clear hm0
        by_cases h14 : n = 14
        · have E : Aside (M.wpE C H s d = 2) := (M.wpE_at HZ0.out).2.2.1 HT.out.symm HM0.out (by rw [HNC.out]; exact h14)
          have EC : Aside (M.wpC C H s d = [] ∧ M.wpH C H s d = []) := ⟨by unfold M.wpC; rw [if_neg (by rw [E.out]; decide)], by unfold M.wpH; rw [if_neg (by rw [E.out]; decide)]⟩
          have h14b : ((n : Int) == 14) = true := by simp [h14]
          clear h14
          obtain ⟨g1, g2, g3⟩ := res_set r2 (.slice none 0 0) (.slice none 0 0)
          obtain ⟨X, hX⟩ : ∃ X, X = (w2.setCell ⟨R, 0, none⟩ (.slice none 0 0)).setCell ⟨R, 1, none⟩ (.slice none 0 0) := ⟨_, rfl⟩
          rw [← hX] at g1
          have bX : Below w.heap.size w X := by rw [hX]; exact (hb2.setCell (p := ⟨R, 0, none⟩) (by show _ ≤ R; have := HPR.out; omega) _).setCell (p := ⟨R, 1, none⟩) (by show _ ≤ R; have := HPR.out; omega) _
          have gX := g1
          have HX9 : Hid (X = (w2.setCell ⟨R, 0, none⟩ (.slice none 0 0)).setCell ⟨R, 1, none⟩ (.slice none 0 0)) := hX
          have HX0 : Aside (X.cell? ⟨R, 0, none⟩ = some (.slice none 0 0)) := by unfold Aside; rw [cell_of_row _ _ _ _ _ _ gX]; rfl
          have HX1 : Aside (X.cell? ⟨R, 1, none⟩ = some (.slice none 0 0)) := by unfold Aside; rw [cell_of_row _ _ _ _ _ _ gX]; rfl
          have x0 : w2.cell? ⟨R, 0, none⟩ = some (.slice none 0 0) := by rw [cell_of_row _ _ _ _ _ _ r2]; rfl
          have x1 : w2.cell? ⟨R, 1, none⟩ = some (.slice none 0 0) := by rw [cell_of_row _ _ _ _ _ _ r2]; rfl
          have f0 : w2.frozen? ⟨R, 0, none⟩ = false := frozen_of_row _ _ _ _ _ r2
          have f1 : w2.frozen? ⟨R, 1, none⟩ = false := frozen_of_row _ _ _ _ _ r2
          clear g1 g2 g3 hX gX r2
          go_wp2
          rw [← HX9.out]
          have y0 := HX0.out
          have y1 := HX1.out
          refine bodyPost_ret (v := .tuple #[.agg #[.slice none 0 0, .slice none 0 0], .int .i64 2]) (by simp [results, Tryz.results56, go_sem, y0, y1]) rfl ?_
          refine ⟨_, ret_two' E.out.symm, ?_, bX⟩
          rw [EC.out.1, EC.out.2]; exact RepoOwn.none _ _
        · have h14b : ((n : Int) == 14) = false := by simp; omega
          have HEp : Aside (M.wpE C H s d = M.patchE (C.getD (M.hat C H s).toNat ([], [])).1 d) := (M.wpE_at HZ0.out).2.2.2 HT.out.symm HM0.out (by rw [HNC.out]; exact h14)
          have hin := M.hat_in HZ0.out
          rw [← HX.out, HNC.out] at hin
          obtain ⟨xn, rfl⟩ : ∃ xn : Nat, x = (xn : Int) := ⟨x.toNat, by omega⟩
          have hxn : xn < n := by omega
          have hxe : (M.hat C H s).toNat = xn := by rw [← HX.out]; rfl
          rw [hxe] at HEp
          obtain ⟨b, off, rfl, hbw2, ra, rn, rc, pa, pn, pc, t0, t1, s0, s1, m0, m1⟩ := HJ2.out.cm.nth hxn
          obtain ⟨l, hl⟩ : ∃ l, l = (C.getD xn ([], [])).1 := ⟨_, rfl⟩
          rw [← hl] at s0 HEp
          have K3 := patchOf_own ra rn rc l a3 m3 cap3 d w2 s0 m0 (HRc.out.below bW2 (Nat.le_refl _)) hm3
          obtain ⟨E, hE⟩ : ∃ E, E = M.patchE l d := ⟨_, rfl⟩
          rw [← hE] at K3 HEp
          have KP : Hid (Calls Tryz.prog 99 #[.slice ra rn rc, .slice a3 m3 cap3] w2 fun e w' => HandsO w2 w' (M.patchV l d) E e) := K3
          have HE : Aside (E = M.patchE l d) := hE
          have HL : Aside (l = (C.getD xn ([], [])).1) := hl
          have hxi : (xn : Int) < (n : Int) := by omega
          have HXe : Aside (M.hat C H s = (xn : Int)) := HX.out.symm
          clear K3 hE hl h14 hin hxe s0 s1
          go_wp2_with fail
          refine KP.out.mono ?_
          rintro e w3 ⟨la, ln, lc, rfl, lr, lle, lmx, ⟨lnil, lo⟩, b3⟩
          have hb3 : Below w.heap.size w w3 := hb2.trans (b3.mono hb2.size)
          have r3 : w3.heap[R]? = some (.cells #[.slice none 0 0, .slice none 0 0] 25 (0, 0)) := (b3.block R hRl2).trans r2
          have hRl3 : R < w3.heap.size := (Array.getElem?_eq_some_iff.1 r3).1
          have bW3 : Below W.heap.size W w3 := bW2.trans (b3.mono bW2.size)
          have J3 := HI.out.below bW3
          have g0 := J3.c0
          have g1 := J3.c1
          by_cases hE0 : E = 0
          · subst hE0
            have E0 : Aside (M.wpE C H s d = 0) := HEp
            have hlp : 0 ≤ M.plc H s := (M.hchk_zero HZ0.out).2
            have hll := M.plc_lt H s
            obtain ⟨kk, hkk⟩ : ∃ kk : Nat, M.plc H s = (kk : Int) := ⟨(M.plc H s).toNat, by omega⟩
            have hkl : kk < H.length := by omega
            have HLen : Aside ((M.patchV l d).length ≤ 1000000) := by have := M.patchV_len (l := l) (d := d) HE.out.symm; unfold Aside; omega
            have EC : Aside (M.wpC C H s d = C ++ [(M.patchV l d, [(xn : Int)])] ∧ M.wpH C H s d = M.setH H kk C.length) := by
              obtain ⟨_, _, _, _, _, f1, f2⟩ := M.put_parts E0.out
              exact ⟨by rw [f1, HXe.out, HL.out]; rfl, by rw [f2, hkk]; rfl⟩
            have HSV : Hid (∀ V, Below w3.heap.size w3 V → V.cell? ⟨p, 0, none⟩ = some (.slice (some ⟨b, off, none⟩) n cap) ∧ V.cell? ⟨p, 1, none⟩ = some (.slice a2 n2 cap2)) := fun V hV => ⟨(hV.cell (p := ⟨p, 0, none⟩) (by show p < _; omega)).trans g0, (hV.cell (p := ⟨p, 1, none⟩) (by show p < _; omega)).trans g1⟩
            have KA : Hid (∀ V, Below w3.heap.size w3 V → Calls Tryz.prog 101 #[.agg #[.slice (some ⟨b, off, none⟩) n cap, .slice a2 n2 cap2], .string s] V fun e w' => e = .returned (.int .i64 (kk : Int)) ∧ Below V.heap.size V w') := fun V hV => by
              rw [← hkk]
              have q := (HVW.out.later bW3).later hV
              exact headAt_any _ n cap C a2 n2 cap2 H s V q.cm q.hs q.hm
            have KG : Hid (∀ V vv, Below w3.heap.size w3 V → OwnI V w3.heap.size (.slice (some ⟨vv, 0, none⟩) 1 1) [(xn : Int)] → Calls Tryz.prog 100 #[.agg #[.slice (some ⟨b, off, none⟩) n cap, .slice a2 n2 cap2], .int .i64 (kk : Int), .slice la ln lc, .slice (some ⟨vv, 0, none⟩) 1 1] V fun e w' => ∃ v, e = .returned v ∧ RepoOwn w' w2.heap.size v (C ++ [(M.patchV l d, [(xn : Int)])]) (M.setH H kk C.length) ∧ Below V.heap.size V w') := fun V vv hV hI =>
              grown_any _ n cap C a2 n2 cap2 H kk la _ ln lc 1 1 (M.patchV l d, [(xn : Int)]) w2.heap.size V ((HVW.out.later bW3).later hV) hr0 hkl (Nat.le_trans b3.size hV.size) ⟨ownsRow_later lo hV, ownsRow_lower hI b3.size, HLen.out, by simp⟩
            have HBd : Hid (Below w3.heap.size w3 w3.drew) := (Below.refl _ _).drew
            have hw23 := b3.size
            have HS2 : Hid (w.heap.size ≤ w2.heap.size) := hb2.size
            clear lr lo lnil KP HEp hkk hll J3 g0 g1 r2
            go_wp2_with fail
            refine wp_region_till 9 (fun V => V.cell? ⟨p, 0, none⟩ = some (.slice (some ⟨b, off, none⟩) n cap) ∧ V.cell? ⟨p, 1, none⟩ = some (.slice a2 n2 cap2)) (by kernel_rfl) (HSV.out _ HBd.out) (fun hHeld => ?_)
            refine till_take 0 (v := .agg #[.slice (some ⟨b, off, none⟩) n cap, .slice a2 n2 cap2]) rfl (by decide) (by kernel_rfl) (by kernel_rfl) (by kernel_rfl) (by kernel_rfl) (by kernel_rfl) (fun _ _ _ h => h) (Or.inl ⟨by rfl, fun V hV => (by obtain ⟨v0, v1⟩ := hV; go_simp)⟩) hHeld ?_
            try simp only [Act.put]
            refine till_take 1 (v := .agg #[.slice (some ⟨b, off, none⟩) n cap, .slice a2 n2 cap2]) rfl (by decide) (by kernel_rfl) (by kernel_rfl) (by kernel_rfl) (by kernel_rfl) (by kernel_rfl) (fun _ _ _ h => h) (Or.inl ⟨by rfl, fun V hV => (by obtain ⟨v0, v1⟩ := hV; go_simp)⟩) hHeld ?_
            try simp only [Act.put]
            refine till_go 2 (v := .string s) rfl (by decide) (by kernel_rfl) (by kernel_rfl) (by kernel_rfl) (fun _ _ _ h => h) (Or.inl ⟨by rfl, fun V _ => (by go_simp)⟩) hHeld ?_
            try simp only [Act.put]
            refine till_go 4 (v := .slice la ln lc) rfl (by decide) (by kernel_rfl) (by kernel_rfl) (by kernel_rfl) (fun _ _ _ h => h) (Or.inl ⟨by rfl, fun V _ => (by go_simp)⟩) hHeld ?_
            try simp only [Act.put]
            refine till_go 5 (v := .int .i64 (xn : Int)) rfl (by decide) (by kernel_rfl) (by kernel_rfl) (by kernel_rfl) (fun _ _ _ h => h) (Or.inl ⟨by rfl, fun V _ => (by go_simp)⟩) hHeld ?_
            try simp only [Act.put]
            refine till_two 3 6 rfl rfl (by decide) (by decide) (by kernel_rfl) (fun K hK => ?hA) (fun K hK => ?hB)
            case' hA =>
              go_simp
              go_wp2_with (go_at_call 101; refine (KA.out _ HBd.out).mono ?_; rintro e w4 ⟨rfl, b4⟩)
              have c4 : Below w3.heap.size w3 w4 := HBd.out.trans b4
              refine hK.out _ _ (HSV.out _ c4) (fun hHeld => ?_)
              clear hK K b4
              refine till_step 6 rfl (by decide) (by kernel_rfl) (fun K hK => ?_)
              go_simp
              have c5 : Hid (Below w3.heap.size w3 (w4.alloc (.cells #[.int .i64 (xn : Int)] 3))) := c4.alloc c4.size _
              have oi5 : Hid (OwnI (w4.alloc (.cells #[.int .i64 (xn : Int)] 3)) w3.heap.size (.slice (some ⟨w4.heap.size, 0, none⟩) 1 1) [(xn : Int)]) := ownI_one w4 _ _ c4.size
              refine hK.out _ _ (HSV.out _ c5.out) (fun hHeld => ?_)
              clear hK K c4
            case' hB =>
              go_simp
              have c4 : Below w3.heap.size w3 (w3.alloc (.cells #[.int .i64 (xn : Int)] 3)).drew := ((Below.refl _ _).alloc (Nat.le_refl _) _).drew
              refine hK.out _ _ (HSV.out _ c4) (fun hHeld => ?_)
              clear hK K
              refine till_step 3 rfl (by decide) (by kernel_rfl) (fun K hK => ?_)
              go_simp
              go_wp2_with (go_at_call 101; refine (KA.out _ c4).mono ?_; rintro e w4 ⟨rfl, b4⟩)
              have c5 : Hid (Below w3.heap.size w3 w4) := c4.trans (b4.mono c4.size)
              have oi5 : Hid (OwnI w4 w3.heap.size (.slice (some ⟨w3.heap.size, 0, none⟩) 1 1) [(xn : Int)]) := ownsRow_later (ownsRow_later (ownI_one w3 _ _ (Nat.le_refl _)) ((Below.refl _ _).drew)) b4
              refine hK.out _ _ (HSV.out _ c5.out) (fun hHeld => ?_)
              clear hK K c4 b4
            all_goals
              refine till_step 7 rfl (by decide) (by kernel_rfl) (fun K hK => ?_)
              go_simp
              go_wp2_with (go_at_call 100; refine (KG.out _ _ c5.out oi5.out).mono ?_; rintro e w6 ⟨v6, rfl, o6, b6⟩)
              have c6 : Below w3.heap.size w3 w6 := c5.out.trans (b6.mono c5.out.size)
              have hb6 : Below w.heap.size w w6 := hb3.trans (c6.mono hb3.size)
              have r6 : w6.heap[R]? = some (.cells #[.slice none 0 0, .slice none 0 0] 25 (0, 0)) := (c6.block R hRl3).trans r3
              obtain ⟨xa8, xc8, ya8, yc8, rfl, _⟩ := o6.v
              generalize hln : (C ++ [(M.patchV l d, [(xn : Int)])]).length = ln8 at *
              generalize hlh : (M.setH H kk C.length).length = lh8 at *
              obtain ⟨q1, q2, hqq, o61, o62⟩ := o6
              obtain ⟨rfl, rfl⟩ : q1 = .slice xa8 ln8 xc8 ∧ q2 = .slice ya8 lh8 yc8 := by simp at hqq; exact ⟨hqq.1.symm, hqq.2.symm⟩
              have HRO : Aside (RepoOwn ((w6.setCell ⟨R, 0, none⟩ (.slice xa8 ln8 xc8)).setCell ⟨R, 1, none⟩ (.slice ya8 lh8 yc8)) w.heap.size (.agg #[.slice xa8 ln8 xc8, .slice ya8 lh8 yc8]) (M.wpC C H s d) (M.wpH C H s d)) := by unfold Aside; rw [EC.out.1, EC.out.2]; exact (repoOwn_set r6 o61 o62).lower HS2.out
              obtain ⟨g1, g2, g3⟩ := res_set r6 (.slice xa8 ln8 xc8) (.slice ya8 lh8 yc8)
              obtain ⟨X, hX⟩ : ∃ X, X = (w6.setCell ⟨R, 0, none⟩ (.slice xa8 ln8 xc8)).setCell ⟨R, 1, none⟩ (.slice ya8 lh8 yc8) := ⟨_, rfl⟩
              have sX := HSV.out w6 c6
              have sX2 : X.cell? ⟨p, 0, none⟩ = some (.slice (some ⟨b, off, none⟩) n cap) ∧ X.cell? ⟨p, 1, none⟩ = some (.slice a2 n2 cap2) := by
                rw [hX]
                exact ⟨(World.cell?_of_block (a := ⟨p, 0, none⟩) (g2 p (by omega))).trans sX.1, (World.cell?_of_block (a := ⟨p, 1, none⟩) (g2 p (by omega))).trans sX.2⟩
              rw [← hX] at g1 HRO
              have bX : Below w.heap.size w X := by rw [hX]; exact (hb6.setCell (p := ⟨R, 0, none⟩) (by show _ ≤ R; have := HPR.out; omega) _).setCell (p := ⟨R, 1, none⟩) (by show _ ≤ R; have := HPR.out; omega) _
              have HX9 : Hid (X = (w6.setCell ⟨R, 0, none⟩ (.slice xa8 ln8 xc8)).setCell ⟨R, 1, none⟩ (.slice ya8 lh8 yc8)) := hX
              have HX0 : Aside (X.cell? ⟨R, 0, none⟩ = some (.slice xa8 ln8 xc8)) := by unfold Aside; rw [cell_of_row _ _ _ _ _ _ g1]; rfl
              have HX1 : Aside (X.cell? ⟨R, 1, none⟩ = some (.slice ya8 lh8 yc8)) := by unfold Aside; rw [cell_of_row _ _ _ _ _ _ g1]; rfl
              have HSX : Hid (X.cell? ⟨p, 0, none⟩ = some (.slice (some ⟨b, off, none⟩) n cap) ∧ X.cell? ⟨p, 1, none⟩ = some (.slice a2 n2 cap2)) := sX2
              have HS6 : Hid (w6.cell? ⟨p, 0, none⟩ = some (.slice (some ⟨b, off, none⟩) n cap) ∧ w6.cell? ⟨p, 1, none⟩ = some (.slice a2 n2 cap2)) := sX
              have x0 : w6.cell? ⟨R, 0, none⟩ = some (.slice none 0 0) := by rw [cell_of_row _ _ _ _ _ _ r6]; rfl
              have x1 : w6.cell? ⟨R, 1, none⟩ = some (.slice none 0 0) := by rw [cell_of_row _ _ _ _ _ _ r6]; rfl
              have f0 : w6.frozen? ⟨R, 0, none⟩ = false := frozen_of_row _ _ _ _ _ r6
              have f1 : w6.frozen? ⟨R, 1, none⟩ = false := frozen_of_row _ _ _ _ _ r6
              clear g1 g2 g3 hX r6 o61 o62 hqq hln hlh sX sX2 b6 c6
              refine hK.out _ _ HS6.out (fun hHeld => ?_)
              clear hK K
              refine till_step 8 rfl (by decide) (by kernel_rfl) (fun K hK => ?_)
              go_simp
              rw [← HX9.out]
              refine hK.out _ _ HSX.out (fun hHeld => ?_)
              clear hK K
              refine till_last rfl (by kernel_rfl) (by kernel_rfl) (fun K hK => ?_) _
              go_simp
              refine hK.out _ _ ?_
              clear hK K
              go_wp2
              have y0 := HX0.out
              have y1 := HX1.out
              refine bodyPost_ret (v := .tuple #[.agg #[.slice xa8 ln8 xc8, .slice ya8 lh8 yc8], .int .i64 0]) (by simp [results, Tryz.results56, go_sem, y0, y1]) rfl ?_
              exact ⟨_, ret_two' E0.out.symm, HRO.out, bX⟩
          · have hEb : (E != 0) = true := by simp [hE0]
            have EE : Aside (M.wpE C H s d = E) := HEp
            have EC : Aside (M.wpC C H s d = [] ∧ M.wpH C H s d = []) := ⟨by unfold M.wpC; rw [if_neg (by rw [EE.out]; exact hE0)], by unfold M.wpH; rw [if_neg (by rw [EE.out]; exact hE0)]⟩
            clear lr lo lnil KP HEp hE0 J3 g0 g1 r2
            obtain ⟨g1, g2, g3⟩ := res_set r3 (.slice none 0 0) (.slice none 0 0)
            obtain ⟨X, hX⟩ : ∃ X, X = (w3.setCell ⟨R, 0, none⟩ (.slice none 0 0)).setCell ⟨R, 1, none⟩ (.slice none 0 0) := ⟨_, rfl⟩
            rw [← hX] at g1
            have bX : Below w.heap.size w X := by rw [hX]; exact (hb3.setCell (p := ⟨R, 0, none⟩) (by show _ ≤ R; have := HPR.out; omega) _).setCell (p := ⟨R, 1, none⟩) (by show _ ≤ R; have := HPR.out; omega) _
            have gX := g1
            have HX9 : Hid (X = (w3.setCell ⟨R, 0, none⟩ (.slice none 0 0)).setCell ⟨R, 1, none⟩ (.slice none 0 0)) := hX
            have HX0 : Aside (X.cell? ⟨R, 0, none⟩ = some (.slice none 0 0)) := by unfold Aside; rw [cell_of_row _ _ _ _ _ _ gX]; rfl
            have HX1 : Aside (X.cell? ⟨R, 1, none⟩ = some (.slice none 0 0)) := by unfold Aside; rw [cell_of_row _ _ _ _ _ _ gX]; rfl
            have x0 : w3.cell? ⟨R, 0, none⟩ = some (.slice none 0 0) := by rw [cell_of_row _ _ _ _ _ _ r3]; rfl
            have x1 : w3.cell? ⟨R, 1, none⟩ = some (.slice none 0 0) := by rw [cell_of_row _ _ _ _ _ _ r3]; rfl
            have f0 : w3.frozen? ⟨R, 0, none⟩ = false := frozen_of_row _ _ _ _ _ r3
            have f1 : w3.frozen? ⟨R, 1, none⟩ = false := frozen_of_row _ _ _ _ _ r3
            clear g1 g2 g3 hX gX r3
            go_wp2
            rw [← HX9.out]
            have y0 := HX0.out
            have y1 := HX1.out
            refine bodyPost_ret (v := .tuple #[.agg #[.slice none 0 0, .slice none 0 0], .int .i64 E]) (by simp [results, Tryz.results56, go_sem, y0, y1]) rfl ?_
            refine ⟨_, ret_two' EE.out.symm, ?_, bX⟩
            rw [EC.out.1, EC.out.2]; exact RepoOwn.none _ _
  · have hzb : (z != 0) = true := by simp [hz0]
    have EE : Aside (M.wpE C H s d = z) := by unfold Aside M.wpE; rw [← HZ.out, if_pos hz0]
    have EC : Aside (M.wpC C H s d = [] ∧ M.wpH C H s d = []) := ⟨by unfold M.wpC; rw [if_neg (by rw [EE.out]; exact hz0)], by unfold M.wpH; rw [if_neg (by rw [EE.out]; exact hz0)]⟩
    clear hz0 J1 d0 d1 c0 c1 KH
    obtain ⟨g1, g2, g3⟩ := res_set r1 (.slice none 0 0) (.slice none 0 0)
    obtain ⟨X, hX⟩ : ∃ X, X = (w1.setCell ⟨R, 0, none⟩ (.slice none 0 0)).setCell ⟨R, 1, none⟩ (.slice none 0 0) := ⟨_, rfl⟩
    rw [← hX] at g1
    have bX : Below w.heap.size w X := by rw [hX]; exact (hb1.setCell (p := ⟨R, 0, none⟩) (by show _ ≤ R; have := HPR.out; omega) _).setCell (p := ⟨R, 1, none⟩) (by show _ ≤ R; have := HPR.out; omega) _
    have gX := g1
    have HX9 : Hid (X = (w1.setCell ⟨R, 0, none⟩ (.slice none 0 0)).setCell ⟨R, 1, none⟩ (.slice none 0 0)) := hX
    have HX0 : Aside (X.cell? ⟨R, 0, none⟩ = some (.slice none 0 0)) := by unfold Aside; rw [cell_of_row _ _ _ _ _ _ gX]; rfl
    have HX1 : Aside (X.cell? ⟨R, 1, none⟩ = some (.slice none 0 0)) := by unfold Aside; rw [cell_of_row _ _ _ _ _ _ gX]; rfl
    have x0 : w1.cell? ⟨R, 0, none⟩ = some (.slice none 0 0) := by rw [cell_of_row _ _ _ _ _ _ r1]; rfl
    have x1 : w1.cell? ⟨R, 1, none⟩ = some (.slice none 0 0) := by rw [cell_of_row _ _ _ _ _ _ r1]; rfl
    have f0 : w1.frozen? ⟨R, 0, none⟩ = false := frozen_of_row _ _ _ _ _ r1
    have f1 : w1.frozen? ⟨R, 1, none⟩ = false := frozen_of_row _ _ _ _ _ r1
    clear g1 g2 g3 hX gX r1
    go_wp2
    rw [← HX9.out]
    have y0 := HX0.out
    have y1 := HX1.out
    refine bodyPost_ret (v := .tuple #[.agg #[.slice none 0 0, .slice none 0 0], .int .i64 z]) (by simp [results, Tryz.results56, go_sem, y0, y1]) rfl ?_
    refine ⟨_, ret_two' EE.out.symm, ?_, bX⟩
    rw [EC.out.1, EC.out.2]; exact RepoOwn.none _ _
end Go.Proofs.YtcgpgflnihjpiafGreat

/- The reference's DropOf. -/
namespace Go.Proofs.YtcgpgflnihjpiafGreat
open Go.RowKit Go.Shelf Go.Maps

theorem Hs.take {w : World} {a : Option Addr} {n : Nat} {H : List M.Hd} (h : Hs w a n H) (k : Nat) (hk : k ≤ n) : Hs w a k (H.take k) := by
  obtain ⟨h1, h2⟩ := h
  refine ⟨by rw [List.length_take]; omega, ?_⟩
  rcases h2 with h2 | ⟨b, off, ha, hlt, hc⟩
  · exact Or.inl (by omega)
  · refine Or.inr ⟨b, off, ha, hlt, fun i hi => ?_⟩
    have e : (H.take k).getD i M.hd0 = H.getD i M.hd0 := by simp [List.getD, hi]
    rw [e]; exact hc i (by omega)
theorem Hs.drop {w : World} {b off n : Nat} {H : List M.Hd} (h : Hs w (some ⟨b, off, none⟩) n H) (k : Nat) : Hs w (some ⟨b, off + k * 2, none⟩) (n - k) (H.drop k) := by
  obtain ⟨h1, h2⟩ := h
  refine ⟨by rw [List.length_drop]; omega, ?_⟩
  rcases h2 with h2 | ⟨b', off', ha, hlt, hc⟩
  · exact Or.inl (by omega)
  · cases ha
    refine Or.inr ⟨b, off + k * 2, rfl, hlt, fun i hi => ?_⟩
    have e : (H.drop k).getD i M.hd0 = H.getD (k + i) M.hd0 := by simp [List.getD]
    rw [e, show off + k * 2 + i * 2 = off + (k + i) * 2 by omega]; exact hc (k + i) (by omega)
/-- A repo of the call's own in the box D, whose heads are set anew. -/
theorem boxed_heads {w : World} {B D : Nat} {x y y' : Value} {C : List M.Com} {H' : List M.Hd} (h1 : w.heap[D]? = some (.cells #[x, y] 25 (0, 0))) (h3 : OwnK w B x C) (h4 : OwnH w B y' H') :
    (w.setCell ⟨D, 1, none⟩ y').heap[D]? = some (.cells #[x, y'] 25 (0, 0)) ∧ OwnK (w.setCell ⟨D, 1, none⟩ y') B x C ∧ OwnH (w.setCell ⟨D, 1, none⟩ y') B y' H' := by
  have gg := grownBy_set w ⟨D, 1, none⟩ y'
  refine ⟨?_, h3.elsewhere gg h1 (by decide) (by decide) (by decide), h4.elsewhere gg h1 (by decide)⟩
  rw [heap_setCell_same _ _ _ _ _ _ h1]; rfl

set_option maxRecDepth 100000 in
set_option maxHeartbeats 16000000 in
theorem dropOf_any (a : Option Addr) (n cap : Nat) (C : List M.Com) (a2 : Option Addr) (n2 cap2 : Nat) (H : List M.Hd) (s : ByteArray) (w : World) (hV : RepoV w a n cap C a2 n2 cap2 H) (hc2 : n2 ≤ cap2) (hcm : cap2 ≤ maxLen) :
    Calls Tryz.prog 59 #[.agg #[.slice a n cap, .slice a2 n2 cap2], .string s] w fun e w' => ∃ v, e = .returned (.tuple #[v, .int .i64 (M.dropE C H s)]) ∧ RepoOwn w' w.heap.size v (M.dropC C H s) (M.dropH C H s) ∧ Below w.heap.size w w' := by
  obtain ⟨p, hp⟩ : ∃ p, p = w.heap.size := ⟨_, rfl⟩
  obtain ⟨R, hR⟩ : ∃ R, R = p + 1 := ⟨_, rfl⟩
  have I0 := InBox.new w a n cap C a2 n2 cap2 H hV.cm hV.hs
  obtain ⟨W, hW⟩ : ∃ W, W = (w.alloc (.cells #[.slice a n cap, .slice a2 n2 cap2] 25)).alloc (.cells #[.slice none 0 0, .slice none 0 0] 25) := ⟨_, rfl⟩
  have hb0 : Below (w.alloc (.cells #[.slice a n cap, .slice a2 n2 cap2] 25)).heap.size (w.alloc (.cells #[.slice a n cap, .slice a2 n2 cap2] 25)) W := by rw [hW]; exact (Below.refl _ _).alloc (Nat.le_refl _) _
  have I1 := I0.below hb0
  rw [← hp] at I1
  have hb : Below w.heap.size w W := by rw [hW]; exact ((Below.refl _ _).alloc (Nat.le_refl _) _).alloc (by simp) _
  have hsz : W.heap.size = R + 1 := by rw [hW, hR, hp]; simp
  have q2 : W.heap[R]? = some (.cells #[.slice none 0 0, .slice none 0 0] 25 (0, 0)) := by
    rw [hW, show R = (w.alloc (.cells #[.slice a n cap, .slice a2 n2 cap2] 25)).heap.size by rw [hR, hp]; simp]
    exact heap_alloc_new _ _
  have HI : Hid (InBox W p a n cap C a2 n2 cap2 H) := I1
  have HVW : Hid (RepoV W a n cap C a2 n2 cap2 H) := hV.later hb
  have c0 := I1.c0
  have c1 := I1.c1
  obtain ⟨z, hz⟩ : ∃ z, z = M.hchk C H s := ⟨_, rfl⟩
  obtain ⟨x, hx⟩ : ∃ x, x = M.hat C H s := ⟨_, rfl⟩
  have K0 := headOf_any a n cap C a2 n2 cap2 H s W I1.cm hV.nm I1.hs hV.hm
  rw [← hz, ← hx] at K0
  have KH : Hid (Calls Tryz.prog 97 #[.agg #[.slice a n cap, .slice a2 n2 cap2], .string s] W fun e w' => e = .returned (.tuple #[.int .i64 x, .int .i64 z]) ∧ Below W.heap.size W w') := K0
  have HZ : Aside (z = M.hchk C H s) := hz
  have HQ2 : Hid (W.heap[R]? = some (.cells #[.slice none 0 0, .slice none 0 0] 25 (0, 0))) := q2
  have HW : Hid (W = (w.alloc (.cells #[.slice a n cap, .slice a2 n2 cap2] 25)).alloc (.cells #[.slice none 0 0, .slice none 0 0] 25)) := hW
  have HP : Aside (p = w.heap.size) := hp
  have HR : Aside (R = p + 1) := hR
  have HPR : Aside (w.heap.size ≤ p) := by unfold Aside; omega
  have HSz : Aside (W.heap.size = R + 1) := hsz
  have hpR : p < R := by omega
  have HNH : Aside (H.length = n2) := hV.hs.1
  have HCm : Hid (cap2 ≤ maxLen) := hcm
  clear hW hp hR hV hb0 I0 I1 K0 hz hx q2 hsz hcm
  go_enter Tryz.func59, Tryz.ntmps59
  go_wp2_with fail
  rw [← HW.out, ← HP.out, ← HR.out]
  go_wp2_with fail
  refine KH.out.mono ?_
  rintro e w1 ⟨rfl, b1⟩
  have hb1 : Below w.heap.size w w1 := hb.trans (b1.mono hb.size)
  have hRl : R < w1.heap.size := by have := HSz.out; have := b1.size; omega
  have r1 : w1.heap[R]? = some (.cells #[.slice none 0 0, .slice none 0 0] 25 (0, 0)) := (b1.block R (by have := HSz.out; omega)).trans HQ2.out
  have J1 := HI.out.below b1
  have d0 := J1.c0
  have d1 := J1.c1
  by_cases hz0 : z = 0
  · subst hz0
    have HZ0 : Hid (M.hchk C H s = 0) := HZ.out.symm
    have hr0 := (M.hchk_zero HZ0.out).1
    by_cases h1 : n2 = 1
    · have E : Aside (M.dropE C H s = 1) := by unfold Aside M.dropE; rw [if_neg (fun h => h HZ0.out), if_pos (by rw [HNH.out]; exact h1)]
      have EC : Aside (M.dropC C H s = [] ∧ M.dropH C H s = []) := ⟨by unfold M.dropC; rw [if_neg (by rw [E.out]; decide)], by unfold M.dropH; rw [if_neg (by rw [E.out]; decide)]⟩
      have hmb : ((n2 : Int) == 1) = true := by simp [h1]
      clear h1 J1 c0 c1 KH
      obtain ⟨g1, g2, g3⟩ := res_set r1 (.slice none 0 0) (.slice none 0 0)
      obtain ⟨X, hX⟩ : ∃ X, X = (w1.setCell ⟨R, 0, none⟩ (.slice none 0 0)).setCell ⟨R, 1, none⟩ (.slice none 0 0) := ⟨_, rfl⟩
      rw [← hX] at g1
      have bX : Below w.heap.size w X := by rw [hX]; exact (hb1.setCell (p := ⟨R, 0, none⟩) (by show _ ≤ R; have := HPR.out; omega) _).setCell (p := ⟨R, 1, none⟩) (by show _ ≤ R; have := HPR.out; omega) _
      have gX := g1
      have HX9 : Hid (X = (w1.setCell ⟨R, 0, none⟩ (.slice none 0 0)).setCell ⟨R, 1, none⟩ (.slice none 0 0)) := hX
      have HX0 : Aside (X.cell? ⟨R, 0, none⟩ = some (.slice none 0 0)) := by unfold Aside; rw [cell_of_row _ _ _ _ _ _ gX]; rfl
      have HX1 : Aside (X.cell? ⟨R, 1, none⟩ = some (.slice none 0 0)) := by unfold Aside; rw [cell_of_row _ _ _ _ _ _ gX]; rfl
      have x0 : w1.cell? ⟨R, 0, none⟩ = some (.slice none 0 0) := by rw [cell_of_row _ _ _ _ _ _ r1]; rfl
      have x1 : w1.cell? ⟨R, 1, none⟩ = some (.slice none 0 0) := by rw [cell_of_row _ _ _ _ _ _ r1]; rfl
      have f0 : w1.frozen? ⟨R, 0, none⟩ = false := frozen_of_row _ _ _ _ _ r1
      have f1 : w1.frozen? ⟨R, 1, none⟩ = false := frozen_of_row _ _ _ _ _ r1
      clear g1 g2 g3 hX gX r1
      go_wp2
      rw [← HX9.out]
      have y0 := HX0.out
      have y1 := HX1.out
      refine bodyPost_ret (v := .tuple #[.agg #[.slice none 0 0, .slice none 0 0], .int .i64 1]) (by simp [results, Tryz.results59, go_sem, y0, y1]) rfl ?_
      refine ⟨_, ret_two' E.out.symm, ?_, bX⟩
      rw [EC.out.1, EC.out.2]; exact RepoOwn.none _ _
    · have hmb : ((n2 : Int) == 1) = false := by simp; omega
      have E0 : Aside (M.dropE C H s = 0) := by unfold Aside M.dropE; rw [if_neg (fun h => h HZ0.out), if_neg (by rw [HNH.out]; exact h1)]
      have hlp : 0 ≤ M.plc H s := (M.hchk_zero HZ0.out).2
      have hll := M.plc_lt H s
      obtain ⟨kk, hkk⟩ : ∃ kk : Nat, M.plc H s = (kk : Int) := ⟨(M.plc H s).toNat, by omega⟩
      have hkl : kk < n2 := by rw [← HNH.out]; omega
      have EC : Aside (M.dropC C H s = C ∧ M.dropH C H s = H.take kk ++ H.drop (kk + 1)) := by
        refine ⟨by unfold M.dropC; rw [if_pos E0.out], ?_⟩
        unfold M.dropH
        rw [if_pos E0.out, hkk, Int.toNat_natCast, List.eraseIdx_eq_take_drop_succ]
      have KO : Hid (Calls Tryz.prog 103 #[.agg #[.slice a n cap, .slice a2 n2 cap2]] w1 fun e w' => ∃ v, e = .returned v ∧ RepoOwn w' w1.heap.size v C H ∧ Below w1.heap.size w1 w') := ownRepo_any a n cap C a2 n2 cap2 H w1 (HVW.out.later b1) hr0
      have hn4 : n2 ≤ 4 := by rw [← HNH.out]; exact (M.rchk_zero hr0).2.1
      clear h1 J1 c0 c1 KH
      go_wp2_with fail
      refine KO.out.mono ?_
      rintro e w2 ⟨v, rfl, ⟨xx, yy, rfl, ok, oh⟩, b2⟩
      obtain ⟨xa, xc, rfl, _⟩ := ok.cm
      obtain ⟨ya, yc, rfl, _⟩ := oh.hs
      obtain ⟨D, hD⟩ : ∃ D, D = w2.heap.size := ⟨_, rfl⟩
      obtain ⟨m, hm⟩ : ∃ m, m = C.length := ⟨_, rfl⟩
      rw [← hm, HNH.out]
      rw [← hm] at ok
      rw [HNH.out] at oh
      obtain ⟨W2, hW2⟩ : ∃ W2, W2 = w2.alloc (.cells #[.slice xa m xc, .slice ya n2 yc] 25) := ⟨_, rfl⟩
      have bW2 : Below w2.heap.size w2 W2 := by rw [hW2]; exact (Below.refl _ _).alloc (Nat.le_refl _) _
      have blk : W2.heap[D]? = some (.cells #[.slice xa m xc, .slice ya n2 yc] 25 (0, 0)) := by rw [hW2, hD]; exact heap_alloc_new _ _
      have q12 : Below w1.heap.size w1 W2 := b2.trans (bW2.mono b2.size)
      have bWW2 : Below W.heap.size W W2 := b1.trans (q12.mono b1.size)
      have HOK : Hid (OwnK W2 w1.heap.size (.slice xa m xc) C) := ok.later bW2
      have J2 := HI.out.below bWW2
      have e0 := J2.c0
      have e1 := J2.c1
      rw [hW2] at e0 e1
      have KA : Hid (Calls Tryz.prog 101 #[.agg #[.slice a n cap, .slice a2 n2 cap2], .string s] W2 fun e w' => e = .returned (.int .i64 (kk : Int)) ∧ Below W2.heap.size W2 w') := by
        have q := HVW.out.later bWW2
        have := headAt_any a n cap C a2 n2 cap2 H s W2 q.cm q.hs q.hm
        rw [hkk] at this
        exact this
      have HBlk : Hid (W2.heap[D]? = some (.cells #[.slice xa m xc, .slice ya n2 yc] 25 (0, 0))) := blk
      have HW2 : Hid (W2 = w2.alloc (.cells #[.slice xa m xc, .slice ya n2 yc] 25)) := hW2
      have HD : Aside (D = w2.heap.size) := hD
      have hD1 : w1.heap.size ≤ D := by rw [hD]; exact b2.size
      have r2 : W2.heap[R]? = some (.cells #[.slice none 0 0, .slice none 0 0] 25 (0, 0)) := (q12.block R hRl).trans r1
      clear hW2 hD ok oh blk hm d0 d1 b2 bW2 KO r1 hkk hll J2
      go_wp2_with fail
      rw [← HW2.out, ← HD.out]
      refine KA.out.mono ?_
      rintro e w3 ⟨rfl, b3⟩
      have q13 : Below w1.heap.size w1 w3 := q12.trans (b3.mono q12.size)
      have bW3 : Below W.heap.size W w3 := b1.trans (q13.mono b1.size)
      have blk3 : w3.heap[D]? = some (.cells #[.slice xa m xc, .slice ya n2 yc] 25 (0, 0)) := (b3.block D (Array.getElem?_eq_some_iff.1 HBlk.out).1).trans HBlk.out
      have hD3 : D < w3.heap.size := (Array.getElem?_eq_some_iff.1 blk3).1
      have r3 : w3.heap[R]? = some (.cells #[.slice none 0 0, .slice none 0 0] 25 (0, 0)) := (b3.block R (Array.getElem?_eq_some_iff.1 r2).1).trans r2
      have HK3 : Hid (OwnK w3 w1.heap.size (.slice xa m xc) C) := HOK.out.later b3
      have J3 := HI.out.below bW3
      have g1 := J3.c1
      obtain ⟨b, off, rfl, hB3⟩ : ∃ b off, a2 = some ⟨b, off, none⟩ ∧ b < w3.heap.size := by
        obtain ⟨_, h0 | ⟨b, off, e, hB, _⟩⟩ := J3.hs
        · omega
        · exact ⟨b, off, e, hB⟩
      have HHs : Hid (Hs w3 (some ⟨b, off, none⟩) n2 H) := J3.hs
      have hp3 : p < w3.heap.size := J3.lt
      have hk1 : (kk : Int) ≤ (cap2 : Int) := by omega
      have hk2 : (kk : Int) + 1 ≤ (n2 : Int) := by omega
      have hk3 : IntKind.i64.wrap ((kk : Int) + 1) = ((kk + 1 : Nat) : Int) := by rw [IntKind.wrap_i64]; omega
      have hk4 : 0 ≤ (kk : Int) + 1 := by omega
      have HH2 : Hid (Hs w3 (if cap2 = kk + 1 then some ⟨b, off, none⟩ else some ⟨b, off + (kk + 1) * 2, none⟩) (n2 - (kk + 1)) (H.drop (kk + 1))) := by
        unfold Hid
        split
        · exact ⟨by rw [List.length_drop, HNH.out], Or.inl (by omega)⟩
        · exact HHs.out.drop (kk + 1)
      have HH1 : Hid (Hs w3 (some ⟨b, off, none⟩) kk (H.take kk)) := HHs.out.take kk (by omega)
      have HNs : Hid ((if cap2 = kk + 1 then some (⟨b, off, none⟩ : Addr) else some ⟨b, off + (kk + 1) * 2, none⟩) = none → n2 - (kk + 1) = 0 ∧ cap2 - (kk + 1) = 0) := fun h => by split at h <;> simp at h
      have HSV : Hid (∀ V, Below w3.heap.size w3 V → V.cell? ⟨p, 1, none⟩ = some (.slice (some ⟨b, off, none⟩) n2 cap2)) := fun V hV => (hV.cell (p := ⟨p, 1, none⟩) hp3).trans g1
      have HBd : Hid (Below w3.heap.size w3 w3.drew) := (Below.refl _ _).drew
      have hW13 := q13.size
      clear e0 e1 KA b3 J3 r2 q12
      go_wp2_with fail
      refine wp_region_till 13 (fun V => V.cell? ⟨p, 1, none⟩ = some (.slice (some ⟨b, off, none⟩) n2 cap2)) (by kernel_rfl) (HSV.out _ HBd.out) (fun hHeld => ?_)
      refine till_go 1 (v := .pointer (some ⟨p, 1, none⟩)) rfl (by decide) (by kernel_rfl) (by kernel_rfl) (by kernel_rfl) (fun _ _ _ h => h) (Or.inl ⟨by rfl, fun V _ => (by go_simp)⟩) hHeld ?_
      try simp only [Act.put]
      refine till_take 2 (v := .slice (some ⟨b, off, none⟩) n2 cap2) rfl (by decide) (by kernel_rfl) (by kernel_rfl) (by kernel_rfl) (by kernel_rfl) (by kernel_rfl) (fun _ _ _ h => h) (Or.inl ⟨by rfl, fun V hV => (by have v0 := hV; go_simp)⟩) hHeld ?_
      try simp only [Act.put]
      refine till_go 3 (v := .int .i64 (kk : Int)) rfl (by decide) (by kernel_rfl) (by kernel_rfl) (by kernel_rfl) (fun _ _ _ h => h) (Or.inl ⟨by rfl, fun V _ => (by go_simp)⟩) hHeld ?_
      try simp only [Act.put]
      refine till_go 4 (v := .slice (some ⟨b, off, none⟩) kk cap2) rfl (by decide) (by kernel_rfl) (by kernel_rfl) (by kernel_rfl) (fun _ _ _ h => h) (Or.inl ⟨by rfl, fun V _ => (by go_simp)⟩) hHeld ?_
      try simp only [Act.put]
      refine till_go 6 (v := .pointer (some ⟨p, 1, none⟩)) rfl (by decide) (by kernel_rfl) (by kernel_rfl) (by kernel_rfl) (fun _ _ _ h => h) (Or.inl ⟨by rfl, fun V _ => (by go_simp)⟩) hHeld ?_
      try simp only [Act.put]
      refine till_take 7 (v := .slice (some ⟨b, off, none⟩) n2 cap2) rfl (by decide) (by kernel_rfl) (by kernel_rfl) (by kernel_rfl) (by kernel_rfl) (by kernel_rfl) (fun _ _ _ h => h) (Or.inl ⟨by rfl, fun V hV => (by have v0 := hV; go_simp)⟩) hHeld ?_
      try simp only [Act.put]
      refine till_go 8 (v := .int .i64 (kk : Int)) rfl (by decide) (by kernel_rfl) (by kernel_rfl) (by kernel_rfl) (fun _ _ _ h => h) (Or.inl ⟨by rfl, fun V _ => (by go_simp)⟩) hHeld ?_
      try simp only [Act.put]
      refine till_go 9 (v := .int .i64 ((kk + 1 : Nat) : Int)) rfl (by decide) (by kernel_rfl) (by kernel_rfl) (by kernel_rfl) (fun _ _ _ h => h) (Or.inl ⟨by rfl, fun V _ => (by go_simp)⟩) hHeld ?_
      try simp only [Act.put]
      refine till_go 10 (v := .slice (if cap2 = kk + 1 then some ⟨b, off, none⟩ else some ⟨b, off + (kk + 1) * 2, none⟩) (n2 - (kk + 1)) (cap2 - (kk + 1))) rfl (by decide) (by kernel_rfl) (by kernel_rfl) (by kernel_rfl) (fun _ _ _ h => h) (Or.inl ⟨by rfl, fun V _ => (by go_simp)⟩) hHeld ?_
      try simp only [Act.put]
      generalize (if cap2 = kk + 1 then some (⟨b, off, none⟩ : Addr) else some ⟨b, off + (kk + 1) * 2, none⟩) = sa at *
      refine till_step 0 rfl (by decide) (by kernel_rfl) (fun K hK => ?_)
      go_simp
      have pb1 : Below w3.heap.size w3 (w3.alloc (.cells #[] 71)).drew := ((Below.refl _ _).alloc (Nat.le_refl _) _).drew
      have oh1 : OwnH (w3.alloc (.cells #[] 71)).drew w3.heap.size (.slice (some ⟨w3.heap.size, 0, none⟩) 0 0) [] := ⟨ownsRow_later (own_empty w3 _ _ _ (Nat.le_refl _)) ((Below.refl _ _).drew), fun x hx => by simp at hx⟩
      refine hK.out _ _ (HSV.out _ pb1) (fun hHeld => ?_)
      clear hK K
      refine till_step 5 rfl (by decide) (by kernel_rfl) (fun K hK => ?_)
      refine step_heads rfl _ _ rfl w3.heap.size _ [] rfl oh1 (some ⟨b, off, none⟩) kk cap2 (H.take kk) rfl (HH1.out.below pb1 (Nat.le_refl _)) (fun h => by simp at h) (by simp; omega) pb1.size ?_
      intro v4 w4 o4 g4
      simp only [List.nil_append] at o4
      have pb4 : Below w3.heap.size w3 w4 := pb1.trans (below_grown g4 (fun k e => by have e2 := Option.some.inj e; simp at e2; omega) pb1.size)
      refine hK.out _ _ (HSV.out _ pb4) (fun hHeld => ?_)
      clear hK K
      refine till_step 11 rfl (by decide) (by kernel_rfl) (fun K hK => ?_)
      refine step_heads rfl _ _ rfl w3.heap.size _ (H.take kk) rfl o4 sa (n2 - (kk + 1)) (cap2 - (kk + 1)) (H.drop (kk + 1)) rfl (HH2.out.below pb4 (Nat.le_refl _)) HNs.out (by rw [List.length_take, HNH.out]; omega) pb4.size ?_
      intro v5 w5 o5 g5
      have pb5 : Below w3.heap.size w3 w5 := pb4.trans (below_grown g5 (fun k e => (World.ownsRow.lt o4.1 k e).1) pb4.size)
      obtain ⟨va, vc, rfl, _⟩ := o5.hs
      obtain ⟨vn, hvn⟩ : ∃ vn, vn = (H.take kk ++ H.drop (kk + 1)).length := ⟨_, rfl⟩
      rw [← hvn] at o5 ⊢
      have blk5 : w5.heap[D]? = some (.cells #[.slice xa m xc, .slice ya n2 yc] 25 (0, 0)) := (pb5.block D hD3).trans blk3
      have r5 : w5.heap[R]? = some (.cells #[.slice none 0 0, .slice none 0 0] 25 (0, 0)) := (pb5.block R (Array.getElem?_eq_some_iff.1 r3).1).trans r3
      obtain ⟨P1, P2, P3⟩ := boxed_heads (y' := .slice va vn vc) blk5 (HK3.out.later pb5) (o5.lower hW13)
      obtain ⟨W6, hW6⟩ : ∃ W6, W6 = w5.setCell ⟨D, 1, none⟩ (.slice va vn vc) := ⟨_, rfl⟩
      rw [← hW6] at P1 P2 P3
      have hRD : R ≠ D := by omega
      have r6 : W6.heap[R]? = some (.cells #[.slice none 0 0, .slice none 0 0] 25 (0, 0)) := by rw [hW6, heap_setCell_other _ _ _ _ (by exact hRD)]; exact r5
      have hb5 : Below w.heap.size w W6 := by rw [hW6]; exact ((hb1.trans (q13.mono hb1.size)).trans (pb5.mono (by have := hb1.size; omega))).setCell (p := ⟨D, 1, none⟩) (by show _ ≤ D; have := hb1.size; omega) _
      have HRO : Aside (RepoOwn ((W6.setCell ⟨R, 0, none⟩ (.slice xa m xc)).setCell ⟨R, 1, none⟩ (.slice va vn vc)) w.heap.size (.agg #[.slice xa m xc, .slice va vn vc]) (M.dropC C H s) (M.dropH C H s)) := by unfold Aside; rw [EC.out.1, EC.out.2]; exact (repoOwn_set r6 P2 P3).lower hb1.size
      obtain ⟨g1', g2', g3'⟩ := res_set r6 (.slice xa m xc) (.slice va vn vc)
      obtain ⟨X, hX⟩ : ∃ X, X = (W6.setCell ⟨R, 0, none⟩ (.slice xa m xc)).setCell ⟨R, 1, none⟩ (.slice va vn vc) := ⟨_, rfl⟩
      rw [← hX] at g1' HRO
      have bX : Below w.heap.size w X := by rw [hX]; exact (hb5.setCell (p := ⟨R, 0, none⟩) (by show _ ≤ R; have := HPR.out; omega) _).setCell (p := ⟨R, 1, none⟩) (by show _ ≤ R; have := HPR.out; omega) _
      have HX9 : Hid (X = (W6.setCell ⟨R, 0, none⟩ (.slice xa m xc)).setCell ⟨R, 1, none⟩ (.slice va vn vc)) := hX
      have HW6 : Hid (W6 = w5.setCell ⟨D, 1, none⟩ (.slice va vn vc)) := hW6
      have HX0 : Aside (X.cell? ⟨R, 0, none⟩ = some (.slice xa m xc)) := by unfold Aside; rw [cell_of_row _ _ _ _ _ _ g1']; rfl
      have HX1 : Aside (X.cell? ⟨R, 1, none⟩ = some (.slice va vn vc)) := by unfold Aside; rw [cell_of_row _ _ _ _ _ _ g1']; rfl
      have f5 : w5.frozen? ⟨D, 1, none⟩ = false := frozen_of_row _ _ _ _ _ blk5
      have k5 : w5.cell? ⟨D, 1, none⟩ = some (.slice ya n2 yc) := by rw [cell_of_row _ _ _ _ _ _ blk5]; rfl
      have e0' : W6.cell? ⟨D, 0, none⟩ = some (.slice xa m xc) := by rw [cell_of_row _ _ _ _ _ _ P1]; rfl
      have e1' : W6.cell? ⟨D, 1, none⟩ = some (.slice va vn vc) := by rw [cell_of_row _ _ _ _ _ _ P1]; rfl
      have x0' : W6.cell? ⟨R, 0, none⟩ = some (.slice none 0 0) := by rw [cell_of_row _ _ _ _ _ _ r6]; rfl
      have x1' : W6.cell? ⟨R, 1, none⟩ = some (.slice none 0 0) := by rw [cell_of_row _ _ _ _ _ _ r6]; rfl
      have f0' : W6.frozen? ⟨R, 0, none⟩ = false := frozen_of_row _ _ _ _ _ r6
      have f1' : W6.frozen? ⟨R, 1, none⟩ = false := frozen_of_row _ _ _ _ _ r6
      have HPB : Hid (Below w3.heap.size w3 w5) := pb5
      clear g1' g2' g3' hX hW6 P1 P2 P3 r6 r5 blk5 hvn pb1 pb4 pb5 g4 g5 o4 o5 oh1 r3 blk3
      refine hK.out _ _ (HSV.out _ HPB.out) (fun hHeld => ?_)
      clear hK K
      refine till_go 12 (v := .pointer (some ⟨D, 1, none⟩)) rfl (by decide) (by kernel_rfl) (by kernel_rfl) (by kernel_rfl) (fun _ _ _ h => h) (Or.inl ⟨by rfl, fun V _ => (by go_simp)⟩) hHeld ?_
      try simp only [Act.put]
      refine till_last rfl (by kernel_rfl) (by kernel_rfl) (fun K hK => ?_) _
      go_simp
      rw [← HW6.out]
      refine hK.out _ _ ?_
      clear hK K f5 k5
      go_wp2
      rw [← HX9.out]
      have y0 := HX0.out
      have y1 := HX1.out
      refine bodyPost_ret (v := .tuple #[.agg #[.slice xa m xc, .slice va vn vc], .int .i64 0]) (by simp [results, Tryz.results59, go_sem, y0, y1]) rfl ?_
      exact ⟨_, ret_two' E0.out.symm, HRO.out, bX⟩
  · have hzb : (z != 0) = true := by simp [hz0]
    have EE : Aside (M.dropE C H s = z) := by unfold Aside M.dropE; rw [← HZ.out, if_pos hz0]
    have EC : Aside (M.dropC C H s = [] ∧ M.dropH C H s = []) := ⟨by unfold M.dropC; rw [if_neg (by rw [EE.out]; exact hz0)], by unfold M.dropH; rw [if_neg (by rw [EE.out]; exact hz0)]⟩
    clear hz0 J1 d0 d1 c0 c1 KH
    obtain ⟨g1, g2, g3⟩ := res_set r1 (.slice none 0 0) (.slice none 0 0)
    obtain ⟨X, hX⟩ : ∃ X, X = (w1.setCell ⟨R, 0, none⟩ (.slice none 0 0)).setCell ⟨R, 1, none⟩ (.slice none 0 0) := ⟨_, rfl⟩
    rw [← hX] at g1
    have bX : Below w.heap.size w X := by rw [hX]; exact (hb1.setCell (p := ⟨R, 0, none⟩) (by show _ ≤ R; have := HPR.out; omega) _).setCell (p := ⟨R, 1, none⟩) (by show _ ≤ R; have := HPR.out; omega) _
    have gX := g1
    have HX9 : Hid (X = (w1.setCell ⟨R, 0, none⟩ (.slice none 0 0)).setCell ⟨R, 1, none⟩ (.slice none 0 0)) := hX
    have HX0 : Aside (X.cell? ⟨R, 0, none⟩ = some (.slice none 0 0)) := by unfold Aside; rw [cell_of_row _ _ _ _ _ _ gX]; rfl
    have HX1 : Aside (X.cell? ⟨R, 1, none⟩ = some (.slice none 0 0)) := by unfold Aside; rw [cell_of_row _ _ _ _ _ _ gX]; rfl
    have x0 : w1.cell? ⟨R, 0, none⟩ = some (.slice none 0 0) := by rw [cell_of_row _ _ _ _ _ _ r1]; rfl
    have x1 : w1.cell? ⟨R, 1, none⟩ = some (.slice none 0 0) := by rw [cell_of_row _ _ _ _ _ _ r1]; rfl
    have f0 : w1.frozen? ⟨R, 0, none⟩ = false := frozen_of_row _ _ _ _ _ r1
    have f1 : w1.frozen? ⟨R, 1, none⟩ = false := frozen_of_row _ _ _ _ _ r1
    clear g1 g2 g3 hX gX r1
    go_wp2
    rw [← HX9.out]
    have y0 := HX0.out
    have y1 := HX1.out
    refine bodyPost_ret (v := .tuple #[.agg #[.slice none 0 0, .slice none 0 0], .int .i64 z]) (by simp [results, Tryz.results59, go_sem, y0, y1]) rfl ?_
    refine ⟨_, ret_two' EE.out.symm, ?_, bX⟩
    rw [EC.out.1, EC.out.2]; exact RepoOwn.none _ _
end Go.Proofs.YtcgpgflnihjpiafGreat
