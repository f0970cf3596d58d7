/- For every three slices of rows, the law ThreePatch returns true and leaves its arguments as they were: where nothing clashes, what Merge of the landed three package answers are the one's rows with those changes of the other laid on by Patch of the landed diff package that the one has not. No condition. -/
import Derived.Test.YtcgpgflnihjpiadDiff3
import Derived.Test.YtcgpgflnihjpiadFindA
import Derived.Test.YtcgpgflnihjpiadRows
import Derived.Test.YtcgpgflnihjpiadBase
import Derived.ProofKit
import Derived.OpenShut
import Derived.ChangeOld
import Derived.Deep.SlicePairs
import Derived.Deep.RegionHeld
import Derived.Test.YtcgpgflnihjpiadThree4
namespace Go.Proofs.Ytcgpgflnihjpiad.M

theorem mem_dif (a b : List (Int × Int)) (c : Chg) : c ∈ dif a b ↔ ∃ k : Nat, k < 100 ∧ find (k : Int) a ≠ find (k : Int) b ∧ c = ((k : Int), find k a, find k b) := mem_difF a b 100 c
theorem dif_fine {a b : List (Int × Int)} (ha : Ok a) (hb : Ok b) : Fine (-1) (dif a b) := by
  refine ⟨fun c hc => ?_, difF_rise a b 100⟩
  obtain ⟨k, h1, h2, rfl⟩ := (mem_dif a b c).1 hc
  have r1 := find_range (key := (k : Int)) ha
  have r2 := find_range (key := (k : Int)) hb
  exact ⟨by show -1 < (k : Int); omega, by show (k : Int) ≤ 99; omega, r1.1, r1.2, r2.1, r2.2, h2⟩
theorem dif_clash (a b : List (Int × Int)) : clashF a (dif a b) = false := by
  unfold clashF
  rw [List.any_eq_false]
  intro c hc
  obtain ⟨k, h1, h2, rfl⟩ := (mem_dif a b c).1 hc
  simp
theorem dif_tab (a b : List (Int × Int)) (k : Nat) (hk : k < 100) : tab (fun x => find x a) (dif a b) (k : Int) = find k b := by
  rcases tab_cases (fun x => find x a) _ (difF_rise a b 100) (k : Int) with ⟨c, hc, e1, e2⟩ | ⟨hno, e2⟩
  · obtain ⟨j, h1, h2, rfl⟩ := (mem_dif a b c).1 hc
    have : (j : Int) = (k : Int) := e1
    have : j = k := by omega
    subst this
    exact e2
  · by_cases h : find (k : Int) a = find (k : Int) b
    · exact e2.trans h
    · exact absurd rfl (hno _ ((mem_dif a b _).2 ⟨k, hk, h, rfl⟩))
theorem dif_patch {a b : List (Int × Int)} (ha : chk a = 0) (hb : chk b = 0) : patchE a (dif a b) = 0 ∧ patchV a (dif a b) = b := by
  have oa := (chk_zero a).1 ha
  have ob := (chk_zero b).1 hb
  have e : ofTab (tab (fun k => find k a) (dif a b)) = b := ofTab_self ob.2 _ fun i hi => dif_tab a b i hi
  have e0 : patchE a (dif a b) = 0 := by
    unfold patchE
    rw [e, ha, (fine_iff _).2 (dif_fine oa.2 ob.2), dif_clash]
    have := ob.1
    simp
    omega
  refine ⟨e0, ?_⟩
  unfold patchV
  rw [if_pos e0, e]
theorem difF_swap (a b : List (Int × Int)) (n : Nat) : (difF a b n).map swapC = difF b a n := by
  induction n with
  | zero => rfl
  | succ n ih =>
    rw [difF, difF]
    by_cases h : find (n : Int) a = find (n : Int) b
    · rw [if_neg (by simp [h]), if_neg (by simp [h]), ih]
    · rw [if_pos h, if_pos (fun e => h e.symm), List.map_append, ih]; rfl
theorem dif_back {a b : List (Int × Int)} (ha : chk a = 0) (hb : chk b = 0) : backE (dif a b) = 0 ∧ backV (dif a b) = dif b a := by
  have hf := (fine_iff _).2 (dif_fine ((chk_zero a).1 ha).2 ((chk_zero b).1 hb).2)
  unfold backE backV
  rw [if_pos hf, if_pos hf]
  exact ⟨rfl, difF_swap a b 100⟩
theorem dif_nil {a b : List (Int × Int)} (ha : chk a = 0) (hb : chk b = 0) : dif a b = [] ↔ a = b := by
  have oa := ((chk_zero a).1 ha).2
  have ob := ((chk_zero b).1 hb).2
  constructor
  · intro h
    refine ext _ _ oa ob fun k => ?_
    by_cases hk : 0 ≤ k ∧ k ≤ 99
    · obtain ⟨i, rfl⟩ := Int.eq_ofNat_of_zero_le hk.1
      by_cases e : find (i : Int) a = find (i : Int) b
      · exact e
      · have := (mem_dif a b _).2 ⟨i, by omega, e, rfl⟩
        rw [h] at this
        simp at this
    · rw [find_out oa k (by omega), find_out ob k (by omega)]
  · rintro rfl
    refine List.eq_nil_iff_forall_not_mem.2 fun c hc => ?_
    obtain ⟨k, _, h, _⟩ := (mem_dif a a c).1 hc
    exact h rfl
theorem difF_le (a b : List (Int × Int)) (n : Nat) : (difF a b n).length ≤ (foldTo (fun i => find (i : Int) a) n).length + (foldTo (fun i => find (i : Int) b) n).length := by
  induction n with
  | zero => simp [difF]
  | succ n ih =>
    rw [difF, foldTo, foldTo]
    by_cases h : find (n : Int) a = find (n : Int) b
    · rw [if_neg (by simp [h])]
      split <;> split <;> (try simp) <;> omega
    · rw [if_pos h]
      by_cases h1 : find (n : Int) a = -1
      · rw [if_pos h1, if_neg (by omega)]; simp; omega
      · rw [if_neg h1]
        split <;> simp <;> omega
theorem dif_le {a b : List (Int × Int)} (ha : chk a = 0) (hb : chk b = 0) : (dif a b).length ≤ a.length + b.length := by
  have oa := ((chk_zero a).1 ha).2
  have ob := ((chk_zero b).1 hb).2
  have h := difF_le a b 100
  have e1 : foldTo (fun i => find (i : Int) a) 100 = a := ofTab_self oa (fun k => find k a) fun _ _ => rfl
  have e2 : foldTo (fun i => find (i : Int) b) 100 = b := ofTab_self ob (fun k => find k b) fun _ _ => rfl
  rw [e1, e2] at h
  exact h
theorem dif_at (a b : List (Int × Int)) (k : Nat) (h : k < (dif a b).length) : ∃ i : Nat, i < 100 ∧ find (i : Int) a ≠ find (i : Int) b ∧ (dif a b).getD k (0, 0, 0) = ((i : Int), find i a, find i b) := by
  obtain ⟨i, h1, h2, h3⟩ := (mem_dif a b _).1 (gmem (dif a b) k h)
  exact ⟨i, h1, h2, h3⟩

/-- What of the second's changes is not yet in the first. -/
def left (b l m : List (Int × Int)) : List Chg := (dif b m).filter (fun c => decide (find c.1 l ≠ c.2.2))
theorem difF_left (b l m : List (Int × Int)) (n : Nat) (h : ∀ k : Nat, k < n → mclash (find k b) (find k l) (find k m) = false) :
    (difF b m n).filter (fun c => decide (find c.1 l ≠ c.2.2)) = (sel (fun k => decide (find (k : Int) b ≠ find (k : Int) m)) n).filterMap (aloneC b l m) := by
  induction n with
  | zero => rfl
  | succ n ih =>
    have ih := ih fun k hk => h k (by omega)
    have hc := h n (by omega)
    unfold mclash at hc
    rw [decide_eq_false_iff_not] at hc
    rw [difF, sel]
    by_cases h1 : find (n : Int) b = find (n : Int) m
    · rw [if_neg (by simp [h1]), if_neg (by simp [h1]), ih]
    · rw [if_pos h1, if_pos (by simp [h1]), List.filter_append, List.filterMap_append, ih]
      congr 1
      by_cases h2 : find (n : Int) b = find (n : Int) l
      · have h3 : find (n : Int) l ≠ find (n : Int) m := by omega
        simp [aloneC, h2, h3]
      · have h3 : find (n : Int) l = find (n : Int) m := by omega
        simp [aloneC, h3, h1]
theorem left_alone (b l m : List (Int × Int)) (h : mkeys b l m = []) : left b l m = alone b l m := by
  refine difF_left b l m 100 fun k hk => ?_
  cases hm : mclash (find (k : Int) b) (find (k : Int) l) (find (k : Int) m) with
  | false => rfl
  | true =>
    have : (k : Int) ∈ mkeys b l m := (mem_sel _ _ _).2 ⟨k, hk, hm, rfl⟩
    rw [h] at this
    simp at this
theorem left_patch {b l m : List (Int × Int)} (hE : mergeE b l m = 0) (hK : mkeys b l m = []) : patchE l (left b l m) = 0 ∧ patchV l (left b l m) = mrows b l m := by
  have z1 : chk b = 0 := by unfold mergeE at hE; split at hE <;> omega
  have z2 : chk l = 0 := by unfold mergeE at hE; rw [if_neg (by omega)] at hE; split at hE <;> omega
  have z3 : chk m = 0 := by unfold mergeE at hE; rw [if_neg (by omega), if_neg (by omega)] at hE; split at hE <;> omega
  have h := alone_patch z1 z2 z3
  rw [left_alone b l m hK]
  have e0 : patchE l (alone b l m) = 0 := h.1.trans hE
  refine ⟨e0, ?_⟩
  unfold patchV
  rw [if_pos e0, h.2]
end Go.Proofs.Ytcgpgflnihjpiad.M

namespace Go.Proofs.Ytcgpgflnihjpiad
open Go.RowKit

theorem of_built (a1 a2 : Option Addr) (n1 n2 c1 c2 : Nat) (l m : List (Int × Int)) (w : World) (z1 : M.chk l = 0) (z2 : M.chk m = 0) (h1 : TvS w a1 n1 c1 (M.build l)) (h2 : TvS w a2 n2 c2 (M.build m)) :
    Calls Try.prog 11 #[.slice a1 n1 c1, .slice a2 n2 c2] w fun e w' => HandsC w w' (M.dif l m) 0 e := by
  have f := dof_any a1 a2 n1 n2 c1 c2 _ _ w h1 (build_big _ z1) h2 (build_big _ z2)
  rwa [(difV_built z1 z2).1, (difV_built z1 z2).2] at f
theorem patch_dif (a : Option Addr) (n c : Nat) (a2 : Option Addr) (n2 c2 : Nat) (l m : List (Int × Int)) (w : World) (z1 : M.chk l = 0) (z2 : M.chk m = 0) (h1 : Sl w a n c l) (h2 : Rc w a2 n2 (M.dif l m)) :
    Calls Try.prog 12 #[.slice a n c, .slice a2 n2 c2] w fun e w' => Hands w w' m 0 e := by
  have hn : n2 ≤ 9223372036854775807 := by have := M.difF_len l m 100; have h3 := h2.1; unfold M.dif at h3; omega
  have f := patch_any a n c l a2 n2 c2 _ w h1.1 h1.len h1.2.2.2 h2 hn
  rwa [(M.dif_patch z1 z2).1, (M.dif_patch z1 z2).2] at f
theorem back_dif (a2 : Option Addr) (n2 c2 : Nat) (l m : List (Int × Int)) (w : World) (z1 : M.chk l = 0) (z2 : M.chk m = 0) (h2 : Rc w a2 n2 (M.dif l m)) :
    Calls Try.prog 13 #[.slice a2 n2 c2] w fun e w' => HandsC w w' (M.dif m l) 0 e := by
  have hn : n2 ≤ 9223372036854775807 := by have := M.difF_len l m 100; have h3 := h2.1; unfold M.dif at h3; omega
  have f := back_any a2 n2 c2 _ w h2 hn
  rwa [(M.dif_back z1 z2).1, (M.dif_back z1 z2).2] at f

theorem find_has (aa : Option Addr) (nn cc : Nat) (ll : List (Int × Int)) (kk : Nat) (W : World) (hr : Rd W aa nn ll) (hn : nn ≤ 9223372036854775807) (hz : M.chk ll = 0) (hk : kk < 100) :
    Calls Try.prog 18 #[.slice aa nn cc, .int .i64 (kk : Int)] W fun e w' => e = .returned (.tuple #[.int .i64 (M.find kk ll), .int .i64 0]) ∧ Below W.heap.size W w' := by
  have H := find_any aa nn cc ll kk W hr hn
  have e := M.asked_ok hz (key := (kk : Int)) (by omega) (by omega)
  rw [M.findV_ok e, e] at H
  exact H
theorem Rc.ofPos {w : World} {a : Option Addr} {n : Nat} {l : List M.Chg} (h : Rc w a n l) (i : Nat) (hi : i < n) : ∃ b off, a = some ⟨b, off, none⟩ ∧ b < w.heap.size ∧ ∀ i, i < n → w.cell? ⟨b, off + i * 3, none⟩ = some (.int .i64 (l.getD i (0, 0, 0)).1) ∧ w.cell? ⟨b, off + i * 3 + 1, none⟩ = some (.int .i64 (l.getD i (0, 0, 0)).2.1) ∧ w.cell? ⟨b, off + i * 3 + 2, none⟩ = some (.int .i64 (l.getD i (0, 0, 0)).2.2) := by
  rcases h.cases with ⟨h0, _⟩ | ⟨b, off, e, _, _, hB, hc⟩
  · omega
  · exact ⟨b, off, e, hB, hc⟩
end Go.Proofs.Ytcgpgflnihjpiad

namespace Go.Proofs.Ytcgpgflnihjpiad
open Go.ChangeShapes Go.WideShapes Go.ChangeAt Go.RowKit Go.Deep

theorem ownTry : ownKnob Try.prog.godebug = none := by kernel_rfl
theorem laidTry : laidOutB Try.prog = true := by kernel_rfl

theorem open_rows {H : Type} {enc : TypeId × Value → H} {w : World} {base : Nat} {spare : Nat → Bool} {held : Bool} {fuel : Nat} {a : Option Addr} {len cap : Nat} {x : DataW H × List MemPlace}
    (h : DataW.trod enc Try.prog w base spare held fuel 22 [.slice a len cap] = some x) : ∃ l, Rd w a len l ∧ len ≤ cap ∧ cap ≤ maxLen ∧ (a = none → len = 0 ∧ cap = 0) := by
  rcases open_slice_pairs Try.underlying22 Try.underlying63 (by kernel_rfl) rfl rfl (by kernel_rfl) (by kernel_rfl) h with ⟨hcs, _⟩ | ⟨ad, len', cap', m, n, V0, V1, D0, D1, P0, P1, hcs, _, hl, hm, hmm, _, hc⟩
  · simp at hcs
    obtain ⟨rfl, rfl, rfl⟩ := hcs
    exact ⟨[], ⟨rfl, Or.inl rfl⟩, Nat.le_refl _, by simp [maxLen], fun _ => ⟨rfl, rfl⟩⟩
  · simp at hcs
    obtain ⟨rfl, rfl, rfl⟩ := hcs
    have hlm : len ≤ m := by rw [hmm]; split <;> omega
    have each : ∀ i, i < len → ∃ q : Int × Int, w.cell? (ad.add (i * 2)) = some (.int .i64 q.1) ∧ w.cell? (ad.add (i * 2 + 1)) = some (.int .i64 q.2) := by
      intro i hi
      obtain ⟨c0, c1, t0, t1⟩ := hc i (by omega)
      obtain ⟨x0, e0, _, _⟩ := DataW.trod_int (k := .i64) Try.underlying3 t0
      obtain ⟨x1, e1, _, _⟩ := DataW.trod_int (k := .i64) Try.underlying3 t1
      simp at e0 e1
      rw [e0] at c0
      rw [e1] at c1
      exact ⟨(x0, x1), c0, c1⟩
    obtain ⟨q, hq⟩ := choose_lt each
    refine ⟨(List.range len).map q, ⟨by simp, ?_⟩, hl, hm, fun h => by simp at h⟩
    by_cases h0 : len = 0
    · exact Or.inl h0
    · obtain ⟨b, off, spot⟩ := ad
      have hs : spot = none := by
        have h1 := (hq 0 (by omega)).1
        simpa [Addr.add] using World.cell?_spot h1
      subst hs
      refine Or.inr ⟨b, off, rfl, World.block_lt_of_cell? w _ (hq 0 (by omega)).1, fun i hi => ?_⟩
      have h1 := hq i hi
      rw [Addr.add_lit, Addr.add_lit, ← Nat.add_assoc] at h1
      have e : ((List.range len).map q).getD i (0, 0) = q i := by simp [List.getD, hi]
      rw [e]
      exact h1
end Go.Proofs.Ytcgpgflnihjpiad

namespace Go.Proofs.Ytcgpgflnihjpiad
open Go.ChangeShapes Go.WideShapes Go.ChangeAt Go.RowKit

theorem merge_zero {b l m : List (Int × Int)} (h : M.mergeE b l m = 0) : M.chk b = 0 ∧ M.chk l = 0 ∧ M.chk m = 0 := by
  unfold M.mergeE at h
  by_cases z1 : M.chk b = 0
  · by_cases z2 : M.chk l = 0
    · by_cases z3 : M.chk m = 0
      · exact ⟨z1, z2, z3⟩
      · rw [if_neg (by omega), if_neg (by omega), if_pos z3] at h; omega
    · rw [if_neg (by omega), if_pos z2] at h; omega
  · rw [if_pos z1] at h; omega
theorem patch_left (a : Option Addr) (n c : Nat) (a2 : Option Addr) (n2 c2 : Nat) (b l m : List (Int × Int)) (w : World) (hE : M.mergeE b l m = 0) (hK : M.mkeys b l m = []) (h1 : Sl w a n c l) (h2 : Rc w a2 n2 (M.left b l m)) :
    Calls Try.prog 12 #[.slice a n c, .slice a2 n2 c2] w fun e w' => Hands w w' (M.mrows b l m) 0 e := by
  have hn : n2 ≤ 9223372036854775807 := by
    have h3 := h2.1
    have h4 := List.length_filter_le (fun c => decide (M.find c.1 l ≠ c.2.2)) (M.dif b m)
    have h5 := M.difF_len b m 100
    unfold M.left at h3
    unfold M.dif at h3 h4
    omega
  have f := patch_any a n c l a2 n2 c2 _ w h1.1 h1.len h1.2.2.2 h2 hn
  rwa [(M.left_patch hE hK).1, (M.left_patch hE hK).2] at f

set_option maxHeartbeats 8000000 in
theorem threePatch_walk (a1 a2 a3 : Option Addr) (n1 n2 n3 c1 c2 c3 : Nat) (b l m : List (Int × Int)) (w : World) (h1 : Sl w a1 n1 c1 b) (h2 : Sl w a2 n2 c2 l) (h3 : Sl w a3 n3 c3 m) :
    Calls Try.prog 7 #[.slice a1 n1 c1, .slice a2 n2 c2, .slice a3 n3 c3] w fun e w' => e = .returned (.bool true) ∧ Below w.heap.size w w' := by
  have begun : Hid (∀ W, Below w.heap.size w W → Calls Try.prog 21 #[] W fun e w' => e = .returned (.bool true) ∧ Below w.heap.size w w' ∧ Below W.heap.size W w') := fun W hW => (threeBegun_any W).mono fun e w' ⟨h, hb⟩ => ⟨h, below2 hW hb, hb⟩
  have K := merge_any a1 a2 a3 n1 n2 n3 c1 c2 c3 b l m w h1.1 h2.1 h3.1 h1.len h2.len h3.len h2.2.2.2
  have S1 : Hid (Sl w a1 n1 c1 b) := h1
  have S2 : Hid (Sl w a2 n2 c2 l) := h2
  have S3 : Hid (Sl w a3 n3 c3 m) := h3
  clear h1 h2 h3
  by_cases hE : M.mergeE b l m = 0
  · have hK : M.mergeK b l m = M.mkeys b l m := by unfold M.mergeK; rw [if_pos hE]
    have hV : M.mergeV b l m = M.mrows b l m := by unfold M.mergeV; rw [if_pos hE]
    rw [hE, hK, hV] at K
    have KK : Hid (Calls Try.prog 19 #[.slice a1 n1 c1, .slice a2 n2 c2, .slice a3 n3 c3] w fun e w' => Hands3 w w' (M.mrows b l m) (M.mkeys b l m) 0 e) := K
    have HE : Hid (M.mergeE b l m = 0) := hE
    have Z := merge_zero hE
    have Z1 : Hid (M.chk b = 0) := Z.1
    have Z2 : Hid (M.chk l = 0) := Z.2.1
    have Z3 : Hid (M.chk m = 0) := Z.2.2
    clear K hE hK hV Z
    go_enter Try.func7, Try.ntmps7
    go_wp2_with fail
    refine KK.out.mono ?_
    rintro e w1 ⟨la, ln, lc, ca, cn, cc, rfl, rl, hlc, hlm, _, rc, hcc, hcm, q1⟩
    have L1 : Hid (Rd w1 la ln (M.mrows b l m)) := rl
    have hln : ln ≤ 9223372036854775807 := by unfold maxLen at hlm; omega
    have S11 : Hid (Sl w1 a1 n1 c1 b) := S1.out.below q1
    have HC : Hid ((M.mkeys b l m).length = cn) := rc.1
    clear rl rc KK hlc hlm hcc hcm
    go_wp2_with fail
    refine (built _ _ _ _ _ S11.out Z1.out).mono ?_
    rintro e w2 ⟨ta, tn, tc, rfl, t, ba⟩
    have T2 : Hid (TvS w2 ta tn tc (M.build b)) := t
    have L2 : Hid (Rd w2 la ln (M.mrows b l m)) := L1.out.below ba (Nat.le_refl _)
    have q2 := below2 q1 ba
    have S32 : Hid (Sl w2 a3 n3 c3 m) := S3.out.below q2
    clear t ba L1 S11 q1
    go_wp2_with fail
    refine (built _ _ _ _ _ S32.out Z3.out).mono ?_
    rintro e w3 ⟨ua, un, uc, rfl, t, ba⟩
    have U3 : Hid (TvS w3 ua un uc (M.build m)) := t
    have T3 : Hid (TvS w3 ta tn tc (M.build b)) := T2.out.below ba
    have L3 : Hid (Rd w3 la ln (M.mrows b l m)) := L2.out.below ba (Nat.le_refl _)
    have q3 := below2 q2 ba
    clear t ba L2 T2 S32 q2
    by_cases hc0 : cn = 0
    · subst hc0
      have HK : Hid (M.mkeys b l m = []) := List.eq_nil_of_length_eq_zero HC.out
      clear HC
      go_wp2_with fail
      refine (of_built _ _ _ _ _ _ _ _ _ Z1.out Z3.out T3.out U3.out).mono ?_
      rintro e w4 ⟨da, dn, dc, rfl, r, _, _, ba⟩
      have D4 : Hid (Rc w4 da dn (M.dif b m)) := r
      have L4 : Hid (Rd w4 la ln (M.mrows b l m)) := L3.out.below ba (Nat.le_refl _)
      have q4 := below2 q3 ba
      have hs4 := q4.size
      have hd100 : dn ≤ 100 := by rw [← D4.out.1]; exact M.difF_len b m 100
      clear r ba T3 U3 L3 q3
      obtain ⟨P, hP⟩ : ∃ P : M.Chg → Bool, P = fun c => decide (M.find c.1 l ≠ c.2.2) := ⟨_, rfl⟩
      obtain ⟨d, hd⟩ : ∃ d, d = M.dif b m := ⟨_, rfl⟩
      rw [← hd] at D4
      have HP : Hid (P = fun c => decide (M.find c.1 l ≠ c.2.2)) := hP
      have HD : Hid (d = M.dif b m) := hd
      have HLft : Hid (d.filter P = M.left b l m) := by unfold Hid M.left; rw [hP, hd]
      clear hP hd
      go_wp2
      go_loopg [16, 17] dn (fun g v ix wr => ∃ i : Nat, i + g = dn ∧ ix = .int .i64 i ∧ Aside (OwnC wr w4.heap.size v ((d.take i).filter P)) ∧ Below w4.heap.size w4 wr)
      case atStart => exact ⟨0, by omega, rfl, OwnC.nil _ _, Below.refl _ _⟩
      case round =>
        obtain ⟨i, hig, rfl, HO, hbel⟩ := hrel
        have hsz := hbel.size
        by_cases hlt : i < dn
        · have hii : (i : Int) < (dn : Int) := by omega
          obtain ⟨db, doff, rfl, hB, hc⟩ := D4.out.ofPos i hlt
          obtain ⟨k, hk, hne, hat⟩ : ∃ k : Nat, k < 100 ∧ M.find (k : Int) b ≠ M.find (k : Int) m ∧ d.getD i (0, 0, 0) = ((k : Int), M.find k b, M.find k m) := by
            rw [HD.out]; exact M.dif_at b m i (by rw [← HD.out, D4.out.1]; exact hlt)
          obtain ⟨k1, k2, k3⟩ := hc i hlt
          rw [hat] at k1 k2 k3
          obtain ⟨x, hx⟩ : ∃ x, x = M.find (k : Int) b := ⟨_, rfl⟩
          obtain ⟨y, hy⟩ : ∃ y, y = M.find (k : Int) l := ⟨_, rfl⟩
          obtain ⟨z, hz⟩ : ∃ z, z = M.find (k : Int) m := ⟨_, rfl⟩
          rw [← hx, ← hz] at hat k1 k2 k3
          have p0 : wr.cell? ⟨db, doff + i * 3, none⟩ = some (.int .i64 (k : Int)) := (hbel.cell (p := ⟨db, doff + i * 3, none⟩) hB).trans k1
          have p1 : wr.cell? ⟨db, doff + i * 3 + 1, none⟩ = some (.int .i64 x) := (hbel.cell (p := ⟨db, doff + i * 3 + 1, none⟩) hB).trans k2
          have p2 : wr.cell? ⟨db, doff + i * 3 + 2, none⟩ = some (.int .i64 z) := (hbel.cell (p := ⟨db, doff + i * 3 + 2, none⟩) hB).trans k3
          have HMt : Aside ((d.take (i + 1)).filter P = (d.take i).filter P ++ if (y != z) = true then [((k : Int), x, z)] else []) := by
            unfold Aside
            rw [M.filter_take d P i (by rw [D4.out.1]; exact hlt), hat, HP.out]
            have e : decide (M.find (k : Int) l ≠ z) = (y != z) := by rw [← hy, Bool.eq_iff_iff]; simp
            show _ ++ (if decide (M.find (k : Int) l ≠ z) = true then _ else _) = _
            rw [e]
          have hqr : Below w.heap.size w wr := q4.trans (hbel.mono hs4)
          have G1 := find_has a2 n2 c2 l k wr (S2.out.1.below hqr (Nat.le_refl _)) S2.out.len Z2.out hk
          rw [← hy] at G1
          have GG1 : Hid (Calls Try.prog 18 #[.slice a2 n2 c2, .int .i64 (k : Int)] wr fun e w' => e = .returned (.tuple #[.int .i64 y, .int .i64 0]) ∧ Below wr.heap.size wr w') := G1
          have HLe : Aside (((d.take i).filter P).length + 1 ≤ 1000000) := by
            unfold Aside
            have := List.length_filter_le P (d.take i)
            rw [List.length_take] at this
            omega
          clear hc hat k1 k2 k3 hx hy hz hne G1
          go_wp2_with fail
          refine GG1.out.mono ?_
          rintro e wf ⟨rfl, hbf⟩
          have hB2 : db < wr.heap.size := Nat.lt_of_lt_of_le hB hsz
          have r0 : wf.cell? ⟨db, doff + i * 3, none⟩ = some (.int .i64 (k : Int)) := (hbf.cell (p := ⟨db, doff + i * 3, none⟩) hB2).trans p0
          have r1 : wf.cell? ⟨db, doff + i * 3 + 1, none⟩ = some (.int .i64 x) := (hbf.cell (p := ⟨db, doff + i * 3 + 1, none⟩) hB2).trans p1
          have r2 : wf.cell? ⟨db, doff + i * 3 + 2, none⟩ = some (.int .i64 z) := (hbf.cell (p := ⟨db, doff + i * 3 + 2, none⟩) hB2).trans p2
          have HOf : Aside (OwnC wf w4.heap.size u16 ((d.take i).filter P)) := HO.out.below hbf
          have hbw : Below w4.heap.size w4 wf := hbel.trans (hbf.mono hsz)
          clear p0 p1 p2 GG1 HO hqr
          cases hyz : (y != z) with
          | true =>
            have HMt2 : Aside ((d.take (i + 1)).filter P = (d.take i).filter P ++ [((k : Int), x, z)]) := by have h := HMt.out; rw [hyz, if_pos rfl] at h; exact h
            obtain ⟨Wb, hWb⟩ : ∃ Wb, Wb = wf.alloc (.cells #[.int .i64 (k : Int), .int .i64 x, .int .i64 z] 38) := ⟨_, rfl⟩
            have hbb : Below wf.heap.size wf Wb := by rw [hWb]; exact (Below.refl _ _).alloc (Nat.le_refl _) _
            have HOb : Aside (OwnC Wb w4.heap.size u16 ((d.take i).filter P)) := HOf.out.below hbb
            have hbw2 : Below w4.heap.size w4 Wb := hbw.trans (hbb.mono hbw.size)
            have HCb : Hid (∀ j, j < 1 → Wb.cell? ⟨wf.heap.size, 0 + j * 3, none⟩ = some (.int .i64 (([((k : Int), x, z)] : List M.Chg).getD j (0, 0, 0)).1) ∧ Wb.cell? ⟨wf.heap.size, 0 + j * 3 + 1, none⟩ = some (.int .i64 (([((k : Int), x, z)] : List M.Chg).getD j (0, 0, 0)).2.1) ∧ Wb.cell? ⟨wf.heap.size, 0 + j * 3 + 2, none⟩ = some (.int .i64 (([((k : Int), x, z)] : List M.Chg).getD j (0, 0, 0)).2.2)) := by rw [hWb]; exact rc_one _ _ _ _
            have HWb : Hid (Wb = wf.alloc (.cells #[.int .i64 (k : Int), .int .i64 x, .int .i64 z] 38)) := hWb
            clear hWb hbb HOf HMt
            go_wp2_with (at_builtin; rw [← HWb.out]; refine append_rc rfl _ _ rfl w4.heap.size _ ((d.take i).filter P) rfl HOb.out wf.heap.size 1 1 [((k : Int), x, z)] rfl rfl HCb.out HLe.out (by have := hbw2.size; have := hbw.size; omega) ?_)
            intro v' w5 ho' hb3 _
            have HO2 : Aside (OwnC w5 w4.heap.size v' ((d.take (i + 1)).filter P)) := by unfold Aside; rw [HMt2.out]; exact ho'
            have hb4 : Below w4.heap.size w4 w5 := hbw2.trans hb3
            clear ho' hb3
            go_wp2
            go_roundg (gk - 1)
            case measure => omega
            case rel => exact ⟨i + 1, by omega, by go_num, HO2, hb4⟩
          | false =>
            have HO2 : Aside (OwnC wf w4.heap.size u16 ((d.take (i + 1)).filter P)) := by
              have h := HMt.out
              rw [hyz, if_neg (by simp), List.append_nil] at h
              unfold Aside
              rw [h]
              exact HOf.out
            clear HMt HOf
            go_wp2
            go_roundg (gk - 1)
            case measure => omega
            case rel => exact ⟨i + 1, by omega, by go_num, HO2, hbw⟩
        · have e1 : d.take i = d := List.take_of_length_le (by rw [D4.out.1]; omega)
          have HO2 : Aside (OwnC wr w4.heap.size u16 (M.left b l m)) := by have h := HO.out; rw [e1, HLft.out] at h; exact h
          obtain ⟨va, vc, hv, hr, hl, hm2⟩ := HO2.out.rc
          obtain ⟨vn, hvn⟩ : ∃ vn, vn = (M.left b l m).length := ⟨_, rfl⟩
          rw [← hvn] at hv hr
          subst hv
          have HVr : Hid (Rc wr va vn (M.left b l m)) := hr
          have q5 : Below w.heap.size w wr := q4.trans (hbel.mono hs4)
          have L5 : Hid (Rd wr la ln (M.mrows b l m)) := L4.out.below hbel (Nat.le_refl _)
          have S25 : Hid (Sl wr a2 n2 c2 l) := S2.out.below q5
          clear e1 hr HO HO2 hvn hl hm2
          go_wp2_with fail
          refine (patch_left _ _ _ _ _ _ _ _ _ _ HE.out HK.out S25.out HVr.out).mono ?_
          rintro e w6 ⟨xa, xn, xc, rfl, r, k1, k2, _, ba⟩
          have hxn : xn ≤ 9223372036854775807 := by unfold maxLen at k2; omega
          have X6 : Hid (Rd w6 xa xn (M.mrows b l m)) := r
          have L6 : Hid (Rd w6 la ln (M.mrows b l m)) := L5.out.below ba (Nat.le_refl _)
          have q6 := below2 q5 ba
          clear r ba k1 k2 L5 S25 HVr q5
          go_wp2_with fail
          refine (begun.out _ q6).mono ?_
          rintro e w7 ⟨rfl, q7, ba⟩
          have X7 : Hid (Rd w7 xa xn (M.mrows b l m)) := X6.out.below ba (Nat.le_refl _)
          have L7 : Hid (Rd w7 la ln (M.mrows b l m)) := L6.out.below ba (Nat.le_refl _)
          clear ba X6 L6 q6
          go_wp2_with fail
          refine (same_any _ _ _ _ _ _ _ _ _ X7.out L7.out hxn).mono ?_
          rintro e w8 ⟨rfl, ba⟩
          have q8 := below2 q7 ba
          go_wp2
          go_ret
          exact ⟨by simp, q8⟩
    · have hcb : decide ((0 : Int) < (cn : Int)) = true := by simp; omega
      go_wp2_with fail
      refine (begun.out _ q3).mono ?_
      rintro e w4 ⟨rfl, q4, _⟩
      go_wp2
      go_ret
      exact ⟨rfl, q4⟩
  · obtain ⟨E, hEE⟩ : ∃ E, E = M.mergeE b l m := ⟨_, rfl⟩
    rw [← hEE] at K hE
    have hEb : (E != 0) = true := by simp [hE]
    have KK : Hid (Calls Try.prog 19 #[.slice a1 n1 c1, .slice a2 n2 c2, .slice a3 n3 c3] w fun e w' => Hands3 w w' (M.mergeV b l m) (M.mergeK b l m) E e) := K
    clear K hE hEE
    go_enter Try.func7, Try.ntmps7
    go_wp2_with fail
    refine KK.out.mono ?_
    rintro e w1 ⟨la, ln, lc, ca, cn, cc, rfl, rl, hlc, hlm, _, rc, hcc, hcm, q1⟩
    have S11 : Hid (Sl w1 a1 n1 c1 b) := S1.out.below q1
    clear rl rc KK hlc hlm hcc hcm
    go_wp2_with fail
    refine (build_any _ _ _ _ _ S11.out).mono ?_
    rintro e w2 ⟨v1, rfl, _, ba⟩
    have q2 := below2 q1 ba
    have S32 : Hid (Sl w2 a3 n3 c3 m) := S3.out.below q2
    clear ba S11 q1
    go_wp2_with fail
    refine (build_any _ _ _ _ _ S32.out).mono ?_
    rintro e w3 ⟨v2, rfl, _, ba⟩
    have q3 := below2 q2 ba
    clear ba S32 q2
    go_wp2_with fail
    refine (begun.out _ q3).mono ?_
    rintro e w4 ⟨rfl, q4, _⟩
    go_wp2
    go_ret
    exact ⟨rfl, q4⟩

set_option maxRecDepth 100000 in
theorem threePatch_lifted (os : Os) (started : os.Started) (H : Type) (enc : TypeId × Value → H) :
    ReturnsInHanded {} Try.checked os 7 .any (Rows.threePatchSpec.pre6 enc Try.prog Try.f7 Rows.threePatchRow.domain false) (Rows.threePatchSpec.post enc Try.prog Try.f7 false true false false) := by
  refine returnsInHanded_of_change (C := Try.checked) ownTry started (by kernel_rfl) Try.func7
    (ChangeSpec.witness6 (enc := enc) (C := Try.checked) false ⟨#[], #[.slice none 0 0, .slice none 0 0, .slice none 0 0], []⟩ 8 (by kernel_rfl) (by kernel_rfl) (by kernel_rfl) (by kernel_rfl)) ?_
  intro W base args ds gs before hval0 hW hcnd _
  have hval : ∀ (j : Nat) t v, Try.f7.params[j]? = some t → args[j]? = some v → Value.okWide Try.prog W .any base t v := hval0
  have hW' := hW
  obtain ⟨p, q, hA0, hV, rfl, hfz, hnd⟩ := hW
  have hA : DataW.TrodAll enc Try.prog W 0 (fun _ => true) true Try.f7.params.toList args.toList ds p := hA0
  rw [Try.params7] at hA hval
  obtain ⟨v0, vs0, d0, ds0, p0, q0, hargs, rfl, rfl, h0, r0⟩ := trodAll_cons hA
  obtain ⟨v1, vs1, d1, ds1, p1, q1, rfl, rfl, rfl, h1, r1⟩ := trodAll_cons r0
  obtain ⟨v2, vs2, d2, ds2, p2, q2, rfl, rfl, rfl, h2, r2⟩ := trodAll_cons r1
  obtain ⟨rfl, rfl, rfl⟩ := trodAll_nil r2
  obtain rfl : args = #[v0, v1, v2] := by cases args; simp_all
  obtain ⟨rfl, rfl⟩ := trodVars_none hV
  obtain ⟨a0, len0, cap0, rfl⟩ := okWide_slice Try.underlying22 (hval 0 22 v0 rfl rfl)
  have k0 := h0
  have lt0 : ∀ x ∈ p0, x.block < W.heap.size := by obtain ⟨m, hm⟩ := k0; exact DataW.trod_lt m _ _ _ hm
  obtain ⟨l0, hrd0, hl0, hm0, hnil0⟩ : ∃ l, Rd W a0 len0 l ∧ len0 ≤ cap0 ∧ cap0 ≤ maxLen ∧ (a0 = none → len0 = 0 ∧ cap0 = 0) := by
    obtain ⟨fuel, hf⟩ := h0
    exact open_rows (by simpa [Value.cells] using hf)
  obtain ⟨a1, len1, cap1, rfl⟩ := okWide_slice Try.underlying22 (hval 1 22 v1 rfl rfl)
  have k1 := h1
  have lt1 : ∀ x ∈ p1, x.block < W.heap.size := by obtain ⟨m, hm⟩ := k1; exact DataW.trod_lt m _ _ _ hm
  obtain ⟨l1, hrd1, hl1, hm1, hnil1⟩ : ∃ l, Rd W a1 len1 l ∧ len1 ≤ cap1 ∧ cap1 ≤ maxLen ∧ (a1 = none → len1 = 0 ∧ cap1 = 0) := by
    obtain ⟨fuel, hf⟩ := h1
    exact open_rows (by simpa [Value.cells] using hf)
  obtain ⟨a2, len2, cap2, rfl⟩ := okWide_slice Try.underlying22 (hval 2 22 v2 rfl rfl)
  have k2 := h2
  have lt2 : ∀ x ∈ p2, x.block < W.heap.size := by obtain ⟨m, hm⟩ := k2; exact DataW.trod_lt m _ _ _ hm
  obtain ⟨l2, hrd2, hl2, hm2, hnil2⟩ : ∃ l, Rd W a2 len2 l ∧ len2 ≤ cap2 ∧ cap2 ≤ maxLen ∧ (a2 = none → len2 = 0 ∧ cap2 = 0) := by
    obtain ⟨fuel, hf⟩ := h2
    exact open_rows (by simpa [Value.cells] using hf)
  clear hA0 hval0
  refine (threePatch_walk a0 a1 a2 len0 len1 len2 cap0 cap1 cap2 l0 l1 l2 W ⟨hrd0, hl0, hm0, hnil0⟩ ⟨hrd1, hl1, hm1, hnil1⟩ ⟨hrd2, hl2, hm2, hnil2⟩).mono fun e W' ⟨he, bel⟩ => ?_
  subst he
  exact ⟨_, rfl, _, _, _, [], _, [], hW', trodAll_mk1 (shut_bool Try.underlying4 _), (trodAll_cons_mk (Below.trod laidTry (by kernel_rfl) (of_decide_eq_true (by kernel_rfl)) k0 bel lt0) (trodAll_cons_mk (Below.trod laidTry (by kernel_rfl) (of_decide_eq_true (by kernel_rfl)) k1 bel lt1) (trodAll_cons_mk (Below.trod laidTry (by kernel_rfl) (of_decide_eq_true (by kernel_rfl)) k2 bel lt2) trodAll_mk0))), rfl, bel.frame _, fun h => by cases h⟩

theorem threePatch_holds : Rows.ThreePatchSaid :=
  OpenClaim.holds_of_wide 7 Try.f7 rfl rfl rfl rfl rfl rfl rfl ⟨rfl, rfl, rfl, rfl, rfl⟩ rfl rfl rfl rfl rfl (by kernel_rfl) Try.func7 (by kernel_rfl)
    (of_decide_eq_true (by kernel_rfl)) (by unfold Func.isWrapper; first | (rw [if_pos (by decide +kernel)]; kernel_rfl) | (rw [if_neg (by decide +kernel)]; exact ⟨rfl, rfl⟩))
    (fun os started H enc _ => threePatch_lifted os started H enc)
#print axioms threePatch_holds
end Go.Proofs.Ytcgpgflnihjpiad
