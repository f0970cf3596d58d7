/- SameR. -/
import Derived.Test.YtcgpgflnihjpiagGreatBRestRepos03
import Derived.Test.YtcgpgflnihjpiagGreatBRestRepos14
import Derived.Test.YtcgpgflnihjpiagGreatBRestRepos05
import Derived.Test.YtcgpgflnihjpiagGreatRows
import Derived.Test.YtcgpgflnihjpiagGreatBRestRepos01
import Derived.ProofKit
import Derived.OpenShut
import Derived.ChangeOld
import Derived.Deep.SlicePairs
import Derived.Deep.RegionHeld
import Derived.Test.YtcgpgflnihjpiagGreatBRestRepos04
import Derived.Lib.SmallJoins
import Derived.ChangeMaps5
import Derived.Test.YtcgpgflnihjpiagGreatBRestRepos02
import Derived.Test.YtcgpgflnihjpiagGreatBRestRepos09
import Derived.RangeFuncNested
import Derived.RangeFuncBound
import Derived.RangeFuncCalls
import Derived.RangeFuncLeaves
import Derived.RangeFuncBox
import Derived.Shelf.Abstract
import Derived.Shelf.RegionOpen
import Derived.OwnWalkIn
import Derived.TacticsInMore
import Derived.LoopNIn
import Derived.LoopIn
import Derived.Maps.AppendAt
namespace Go.Proofs.YtcgpgflnihjpiagGreat
open Go.RowKit
theorem same_yes (a a2 : Option Addr) (n cap cap2 : Nat) (l : List (Int × Int)) (w : World) (h : Rd w a n l) (h2 : Rd w a2 n l) (hm : n ≤ 9223372036854775807) :
    Calls Tryz.prog 21 #[.slice a n cap, .slice a2 n cap2] w fun e w' => e = .returned (.bool true) ∧ ∃ m, w' = w.drewN m := by
  rcases h.cases with ⟨rfl, rfl⟩ | ⟨b, off, rfl, hn, hl, hB, hc⟩
  · refine (same_none a a2 cap cap2 w).mono ?_
    rintro e w' ⟨rfl, rfl⟩
    exact ⟨rfl, 0, rfl⟩
  · rcases h2.cases with ⟨rfl, rfl⟩ | ⟨b2, off2, rfl, hn2, hl2, hB2, hc2⟩
    · omega
    · refine (same_some b off b2 off2 n cap cap2 l l w hm hl hl2 hc hc2).mono ?_
      rintro e w' ⟨rfl, m, rfl⟩
      exact ⟨ret_bool (by simp), m, rfl⟩
theorem isame_yes (a a2 : Option Addr) (n cap cap2 : Nat) (l : List Int) (w : World) (h : Ri w a n l) (h2 : Ri w a2 n l) (hm : n ≤ 9223372036854775807) :
    Calls Tryz.prog 35 #[.slice a n cap, .slice a2 n cap2] w fun e w' => e = .returned (.bool true) ∧ ∃ m, w' = w.drewN m := by
  rcases h.cases with ⟨rfl, rfl⟩ | ⟨b, off, rfl, hn, hl, hB, hc⟩
  · refine (isame_none a a2 cap cap2 w).mono ?_
    rintro e w' ⟨rfl, rfl⟩
    exact ⟨rfl, 0, rfl⟩
  · rcases h2.cases with ⟨rfl, rfl⟩ | ⟨b2, off2, rfl, hn2, hl2, hB2, hc2⟩
    · omega
    · refine (isame_some b off b2 off2 n cap cap2 l l w hm hl hl2 hc hc2).mono ?_
      rintro e w' ⟨rfl, m, rfl⟩
      exact ⟨ret_bool (by simp), m, rfl⟩
theorem Cm.at {w : World} {a : Option Addr} {n : Nat} {L : List M.Com} (h : Cm w a n L) {k : Nat} (hk : k < n) : ∃ b off, a = some ⟨b, off, none⟩ ∧ ∃ a1 n1 c1 a2 n2 c2, w.cell? ⟨b, off + k * 2, none⟩ = some (.slice a1 n1 c1) ∧ w.cell? ⟨b, off + k * 2 + 1, none⟩ = some (.slice a2 n2 c2) ∧ Rd w a1 n1 (L.getD k ([], [])).1 ∧ Ri w a2 n2 (L.getD k ([], [])).2 ∧ n1 ≤ 9223372036854775807 ∧ n2 ≤ 9223372036854775807 := by
  rcases h.cases with ⟨h0, _⟩ | ⟨b, off, e, _, _, _, hc⟩
  · omega
  · exact ⟨b, off, e, hc k hk⟩
theorem Hs.at {w : World} {a : Option Addr} {n : Nat} {H : List M.Hd} (h : Hs w a n H) {k : Nat} (hk : k < n) : ∃ b off, a = some ⟨b, off, none⟩ ∧ w.cell? ⟨b, off + k * 2, none⟩ = some (.string (H.getD k M.hd0).1) ∧ w.cell? ⟨b, off + k * 2 + 1, none⟩ = some (.int .i64 (H.getD k M.hd0).2) := by
  rcases h.cases with ⟨h0, _⟩ | ⟨b, off, e, _, _, _, hc⟩
  · omega
  · exact ⟨b, off, e, (hc k hk).1, (hc k hk).2.1⟩
set_option maxHeartbeats 8000000 in
theorem srepos_yes (a a' : Option Addr) (n cap cap' : Nat) (C : List M.Com) (a2 a2' : Option Addr) (n2 cap2 cap2' : Nat) (H : List M.Hd) (w : World) (hC : Cm w a n C) (hC' : Cm w a' n C) (hn : n ≤ 9223372036854775807) (hH : Hs w a2 n2 H) (hH' : Hs w a2' n2 H) (hn2 : n2 ≤ 9223372036854775807) :
    Calls Tryz.prog 11 #[.agg #[.slice a n cap, .slice a2 n2 cap2], .agg #[.slice a' n cap', .slice a2' n2 cap2']] w fun e w' => e = .returned (.bool true) ∧ Below w.heap.size w w' := by
  obtain ⟨p, hp⟩ : ∃ p, p = w.heap.size := ⟨_, rfl⟩
  have I0 := InBox.new w a n cap C a2 n2 cap2 H hC hH
  have hb0 : Below w.heap.size w (w.alloc (.cells #[.slice a n cap, .slice a2 n2 cap2] 35)) := (Below.refl _ _).alloc (Nat.le_refl _) _
  have I1 := InBox.new (w.alloc (.cells #[.slice a n cap, .slice a2 n2 cap2] 35)) a' n cap' C a2' n2 cap2' H (hC'.below hb0 (Nat.le_refl _)) (hH'.below hb0 (Nat.le_refl _))
  obtain ⟨W, hW⟩ : ∃ W, W = (w.alloc (.cells #[.slice a n cap, .slice a2 n2 cap2] 35)).alloc (.cells #[.slice a' n cap', .slice a2' n2 cap2'] 35) := ⟨_, rfl⟩
  have I0 := I0.below (w' := W) (by rw [hW]; exact (Below.refl _ _).alloc (Nat.le_refl _) _)
  have hb : Below w.heap.size w W := by rw [hW]; exact hb0.alloc (by simp) _
  rw [show (w.alloc (.cells #[.slice a n cap, .slice a2 n2 cap2] 35)).heap.size = p + 1 by rw [hp]; simp, ← hW] at I1
  rw [← hp] at I0
  have q0 := I0.c0
  have q1 := I0.c1
  have r0 := I1.c0
  have r1 := I1.c1
  have HI0 : Aside (InBox W p a n cap C a2 n2 cap2 H) := I0
  have HI1 : Aside (InBox W (p + 1) a' n cap' C a2' n2 cap2' H) := I1
  have HW : Hid (W = (w.alloc (.cells #[.slice a n cap, .slice a2 n2 cap2] 35)).alloc (.cells #[.slice a' n cap', .slice a2' n2 cap2'] 35)) := hW
  have HP : Aside (p = w.heap.size) := hp
  clear hW hp I0 I1 hC hH hC' hH' hb0
  go_enter Tryz.func11, Tryz.ntmps11
  go_wp2_with fail
  rw [← HW.out, ← HP.out]
  go_wp2
  go_loopg [5] n (fun g i wr => ∃ k : Nat, k + g = n ∧ i = .int .i64 k ∧ Below W.heap.size W wr)
  case atStart => exact ⟨0, by omega, rfl, Below.refl _ _⟩
  case round =>
    obtain ⟨k, hk, rfl, hbel⟩ := hrel
    have J0 := HI0.out.below hbel
    have J1 := HI1.out.below hbel
    have f0 := J0.c0
    have f1 := J1.c0
    by_cases hlt : k < n
    · obtain ⟨b, off, rfl, a1, n1, c1, a3, n3, c3, t0, t1, s0, s1, m0, m1⟩ := J0.cm.at hlt
      obtain ⟨b', off', rfl, a1', n1', c1', a3', n3', c3', t0', t1', s0', s1', m0', m1'⟩ := J1.cm.at hlt
      obtain rfl : n1 = n1' := by rw [← s0.1, ← s0'.1]
      obtain rfl : n3 = n3' := by rw [← s1.1, ← s1'.1]
      have HS1 : Hid (∀ m, Calls Tryz.prog 21 #[.slice a1 n1 c1, .slice a1' n1 c1'] (wr.drewN m) fun e w' => e = .returned (.bool true) ∧ ∃ m', w' = (wr.drewN m).drewN m') := fun m => same_yes a1 a1' n1 c1 c1' _ (wr.drewN m) (s0.below (drewN_below wr m) (Nat.le_refl _)) (s0'.below (drewN_below wr m) (Nat.le_refl _)) m0
      have HS2 : Hid (∀ m, Calls Tryz.prog 35 #[.slice a3 n3 c3, .slice a3' n3 c3'] (wr.drewN m) fun e w' => e = .returned (.bool true) ∧ ∃ m', w' = (wr.drewN m).drewN m') := fun m => isame_yes a3 a3' n3 c3 c3' _ (wr.drewN m) (s1.below (drewN_below wr m) (Nat.le_refl _)) (s1'.below (drewN_below wr m) (Nat.le_refl _)) m1
      have hki : (k : Int) < (n : Int) := by omega
      clear s0 s1 s0' s1' J0 J1 q0 q1 r0 r1
      go_wp2_with fail
      go_quiet ((first | (go_at_call 21; exact Calls.quiet_of (HS1.out _)) | (go_at_call 35; exact Calls.quiet_of (HS2.out _))))
      go_wp2
      go_roundg (gk - 1)
      case measure => omega
      case rel => exact ⟨k + 1, by omega, by go_num, below_drewN hbel _⟩
    · have hkk : decide ((k : Int) < (n : Int)) = false := by simp; omega
      obtain ⟨V, hV⟩ : ∃ V, V = wr := ⟨_, rfl⟩
      rw [← hV] at J0 J1 f0 f1 hbel ⊢
      have g0 := J0.c1
      have g1 := J1.c1
      have HJ0 : Aside (InBox V p a n cap C a2 n2 cap2 H) := J0
      have HJ1 : Aside (InBox V (p + 1) a' n cap' C a2' n2 cap2' H) := J1
      have hbw : Below w.heap.size w V := hb.trans (hbel.mono hb.size)
      clear hV J0 J1 q0 q1 r0 r1
      go_wp2
      go_loopg [6] n2 (fun g i wr => ∃ k : Nat, k + g = n2 ∧ i = .int .i64 k ∧ Below V.heap.size V wr)
      case atStart => exact ⟨0, by omega, rfl, Below.refl _ _⟩
      case round =>
        obtain ⟨k, hk, rfl, hbel⟩ := hrel
        have J0 := HJ0.out.below hbel
        have J1 := HJ1.out.below hbel
        have h0 := J0.c1
        have h1 := J1.c1
        by_cases hlt : k < n2
        · obtain ⟨b, off, rfl, t0, t1⟩ := J0.hs.at hlt
          obtain ⟨b', off', rfl, t0', t1'⟩ := J1.hs.at hlt
          obtain ⟨x, hx⟩ : ∃ x, x = H.getD k M.hd0 := ⟨_, rfl⟩
          rw [← hx] at t0 t1 t0' t1'
          have hki : (k : Int) < (n2 : Int) := by omega
          clear hx J0 J1 g0 g1 f0 f1
          go_wp2_with fail
          go_quiet (fail)
          go_wp2
          go_roundg (gk - 1)
          case measure => omega
          case rel => exact ⟨k + 1, by omega, by go_num, below_drewN hbel _⟩
        · have hkk : decide ((k : Int) < (n2 : Int)) = false := by simp; omega
          go_wp2
          go_ret
          exact ⟨rfl, hbw.trans (hbel.mono hbw.size)⟩
end Go.Proofs.YtcgpgflnihjpiagGreat
namespace Go.Proofs.YtcgpgflnihjpiagGreat
open Go.ChangeShapes Go.WideShapes Go.ChangeAt Go.RowKit Go.Deep
theorem ownTry : ownKnob Tryz.prog.godebug = none := by kernel_rfl
theorem laidTry : laidOutB Tryz.prog = true := by kernel_rfl
theorem open_rows {H : Type} {enc : TypeId × Value → H} {w : World} {base : Nat} {spare : Nat → Bool} {held : Bool} {fuel : Nat} {a : Option Addr} {len cap : Nat} {x : DataW H × List MemPlace}
    (h : DataW.trod enc Tryz.prog w base spare held fuel 47 [.slice a len cap] = some x) : ∃ l, Rd w a len l ∧ len ≤ cap ∧ cap ≤ maxLen ∧ (a = none → len = 0 ∧ cap = 0) := by
  rcases open_slice_pairs Tryz.underlying47 Tryz.underlying56 (by kernel_rfl) rfl rfl (by kernel_rfl) (by kernel_rfl) h with ⟨hcs, _⟩ | ⟨ad, len', cap', m, n, V0, V1, D0, D1, P0, P1, hcs, _, hl, hm, hmm, _, hc⟩
  · simp at hcs
    obtain ⟨rfl, rfl, rfl⟩ := hcs
    exact ⟨[], ⟨rfl, Or.inl rfl⟩, Nat.le_refl _, by simp [maxLen], fun _ => ⟨rfl, rfl⟩⟩
  · simp at hcs
    obtain ⟨rfl, rfl, rfl⟩ := hcs
    have hlm : len ≤ m := by rw [hmm]; split <;> omega
    have each : ∀ i, i < len → ∃ q : Int × Int, w.cell? (ad.add (i * 2)) = some (.int .i64 q.1) ∧ w.cell? (ad.add (i * 2 + 1)) = some (.int .i64 q.2) := by
      intro i hi
      obtain ⟨c0, c1, t0, t1⟩ := hc i (by omega)
      obtain ⟨x0, e0, _, _⟩ := DataW.trod_int (k := .i64) Tryz.underlying3 t0
      obtain ⟨x1, e1, _, _⟩ := DataW.trod_int (k := .i64) Tryz.underlying3 t1
      simp at e0 e1
      rw [e0] at c0
      rw [e1] at c1
      exact ⟨(x0, x1), c0, c1⟩
    obtain ⟨q, hq⟩ := choose_lt each
    refine ⟨(List.range len).map q, ⟨by simp, ?_⟩, hl, hm, fun h => by simp at h⟩
    by_cases h0 : len = 0
    · exact Or.inl h0
    · obtain ⟨b, off, spot⟩ := ad
      have hs : spot = none := by
        have h1 := (hq 0 (by omega)).1
        simpa [Addr.add] using World.cell?_spot h1
      subst hs
      refine Or.inr ⟨b, off, rfl, World.block_lt_of_cell? w _ (hq 0 (by omega)).1, fun i hi => ?_⟩
      have h1 := hq i hi
      rw [Addr.add_lit, Addr.add_lit, ← Nat.add_assoc] at h1
      have e : ((List.range len).map q).getD i (0, 0) = q i := by simp [List.getD, hi]
      rw [e]
      exact h1
theorem list3 {α : Type} (l : List α) (h : l.length = 3) : ∃ a b c, l = [a, b, c] := by
  match l, h with
  | [a, b, c], _ => exact ⟨a, b, c, rfl⟩
set_option maxRecDepth 10000 in
theorem open_changes {H : Type} {enc : TypeId × Value → H} {w : World} {base : Nat} {spare : Nat → Bool} {held : Bool} {fuel : Nat} {a : Option Addr} {len cap : Nat} {x : DataW H × List MemPlace}
    (h : DataW.trod enc Tryz.prog w base spare held fuel 28 [.slice a len cap] = some x) : ∃ l, Rc w a len l ∧ len ≤ cap ∧ cap ≤ maxLen := by
  rcases open_slice Tryz.underlying28 h with ⟨hcs, _⟩ | ⟨ad, len', cap', m, n, D, Pl, hcs, hb, hl, hm, hmm, _, hx⟩
  · simp at hcs
    obtain ⟨rfl, rfl, rfl⟩ := hcs
    exact ⟨[], ⟨rfl, Or.inl rfl⟩, Nat.le_refl _, by simp [maxLen]⟩
  · simp at hcs
    obtain ⟨rfl, rfl, rfl⟩ := hcs
    have hlm : len ≤ m := by rw [hmm]; split <;> omega
    have ce : Tryz.prog.cellsOf 64 = 3 := by kernel_rfl
    have each : ∀ i, i < len → ∃ q : M.Chg, w.cell? (ad.add (i * 3)) = some (.int .i64 q.1) ∧ w.cell? (ad.add (i * 3 + 1)) = some (.int .i64 q.2.1) ∧ w.cell? (ad.add (i * 3 + 2)) = some (.int .i64 q.2.2) := by
      intro i hi
      obtain ⟨cs', h1, h2⟩ := hx i (by omega)
      rw [ce] at h1
      obtain ⟨_, hlen, hcell⟩ := World.cells?_some h1
      obtain ⟨xs, k, hk, hxy, _, hxl, hf⟩ := DataW.trod_struct Tryz.underlying64 h2
      obtain ⟨v0, v1, v2, rfl⟩ := list3 cs' hlen
      obtain ⟨z0, z1, z2, rfl⟩ := list3 xs hxl
      have g0 := hf 0 _ rfl
      have g1 := hf 1 _ rfl
      have g2 := hf 2 _ rfl
      have c1 : Tryz.prog.cellsOf 3 = 1 := by kernel_rfl
      simp [c1] at g0 g1 g2
      obtain ⟨y0, g0⟩ : ∃ y, DataW.trod enc Tryz.prog w base spare held k 3 [v0] = some y := ⟨_, g0⟩
      obtain ⟨y1, g1⟩ : ∃ y, DataW.trod enc Tryz.prog w base spare held k 3 [v1] = some y := ⟨_, g1⟩
      obtain ⟨y2, g2⟩ : ∃ y, DataW.trod enc Tryz.prog w base spare held k 3 [v2] = some y := ⟨_, g2⟩
      obtain ⟨x0, e0, _, _⟩ := DataW.trod_int (k := .i64) Tryz.underlying3 g0
      obtain ⟨x1, e1, _, _⟩ := DataW.trod_int (k := .i64) Tryz.underlying3 g1
      obtain ⟨x2, e2, _, _⟩ := DataW.trod_int (k := .i64) Tryz.underlying3 g2
      simp at e0 e1 e2
      have q0 := hcell 0 (by omega)
      have q1 := hcell 1 (by omega)
      have q2 := hcell 2 (by omega)
      rw [add_add] at q0 q1 q2
      subst e0 e1 e2
      exact ⟨(x0, x1, x2), by simpa using q0, by simpa using q1, by simpa using q2⟩
    obtain ⟨q, hq⟩ := choose_lt each
    refine ⟨(List.range len).map q, ⟨by simp, ?_⟩, hl, hm⟩
    by_cases h0 : len = 0
    · exact Or.inl h0
    · obtain ⟨b, off, spot⟩ := ad
      have hs : spot = none := by
        have h1 := (hq 0 (by omega)).1
        simpa [Addr.add] using World.cell?_spot h1
      subst hs
      refine Or.inr ⟨b, off, rfl, World.block_lt_of_cell? w _ (hq 0 (by omega)).1, fun i hi => ?_⟩
      have h1 := hq i hi
      rw [Addr.add_lit, Addr.add_lit, Addr.add_lit, ← Nat.add_assoc, ← Nat.add_assoc] at h1
      have e : ((List.range len).map q).getD i (0, 0, 0) = q i := by simp [List.getD, hi]
      rw [e]
      exact h1
end Go.Proofs.YtcgpgflnihjpiagGreat
namespace Go.Proofs.YtcgpgflnihjpiagGreat
open Go.ChangeShapes Go.WideShapes Go.ChangeAt Go.RowKit Go.Deep
section
variable {H : Type} {enc : TypeId × Value → H} {w : World} {base : Nat} {spare : Nat → Bool} {held : Bool}
theorem open_rowsC {fuel : Nat} {cs : List Value} {x : DataW H × List MemPlace} (h : DataW.trod enc Tryz.prog w base spare held fuel 47 cs = some x) :
    ∃ a len cap l, cs = [.slice a len cap] ∧ Rd w a len l ∧ len ≤ 9223372036854775807 := by
  rcases open_slice_pairs Tryz.underlying47 Tryz.underlying56 (by kernel_rfl) rfl rfl (by kernel_rfl) (by kernel_rfl) h with ⟨rfl, rfl⟩ | ⟨ad, len, cap, m, n, V0, V1, D0, D1, P0, P1, rfl, _, hl, hm, hmm, rfl, hc⟩
  · obtain ⟨l, r1, r2⟩ := open_rows h
    exact ⟨none, 0, 0, l, rfl, r1, by omega⟩
  · obtain ⟨l, r1, r2⟩ := open_rows h
    exact ⟨some ad, len, cap, l, rfl, r1, by unfold maxLen at hm; omega⟩
theorem open_intsC {fuel : Nat} {cs : List Value} {x : DataW H × List MemPlace} (h : DataW.trod enc Tryz.prog w base spare held fuel 24 cs = some x) :
    ∃ a len cap l, cs = [.slice a len cap] ∧ Ri w a len l ∧ len ≤ 9223372036854775807 := by
  rcases open_slice1 Tryz.underlying24 (by kernel_rfl) h with ⟨rfl, rfl⟩ | ⟨ad, len, cap, m, n, V, D, Pl, rfl, _, hl, hm, hmm, rfl, hc⟩
  · exact ⟨none, 0, 0, [], rfl, ⟨rfl, Or.inl rfl⟩, by omega⟩
  · have hlm : len ≤ m := by rw [hmm]; split <;> omega
    have each : ∀ i, i < len → ∃ q : Int, w.cell? (ad.add i) = some (.int .i64 q) := by
      intro i hi
      obtain ⟨c0, t0⟩ := hc i (by omega)
      obtain ⟨x0, e0, _, _⟩ := DataW.trod_int (k := .i64) Tryz.underlying3 t0
      simp at e0
      rw [e0] at c0
      exact ⟨x0, c0⟩
    obtain ⟨q, hq⟩ := choose_lt each
    refine ⟨some ad, len, cap, (List.range len).map q, rfl, ⟨by simp, ?_⟩, by unfold maxLen at hm; omega⟩
    by_cases h0 : len = 0
    · exact Or.inl h0
    · obtain ⟨b, off, spot⟩ := ad
      have hs : spot = none := by
        have h1 := hq 0 (by omega)
        simpa [Addr.add] using World.cell?_spot h1
      subst hs
      refine Or.inr ⟨b, off, rfl, World.block_lt_of_cell? w _ (hq 0 (by omega)), fun i hi => ?_⟩
      have h1 := hq i hi
      rw [Addr.add_lit] at h1
      have e : ((List.range len).map q).getD i 0 = q i := by simp [List.getD, hi]
      rw [e]
      exact h1
theorem open_coms {fuel : Nat} {a : Option Addr} {len cap : Nat} {x : DataW H × List MemPlace} (h : DataW.trod enc Tryz.prog w base spare held fuel 32 [.slice a len cap] = some x) :
    ∃ L, Cm w a len L ∧ len ≤ cap ∧ cap ≤ maxLen := by
  rcases open_slice_pairs Tryz.underlying32 Tryz.underlying54 (by kernel_rfl) rfl rfl (by kernel_rfl) (by kernel_rfl) h with ⟨hcs, _⟩ | ⟨ad, len', cap', m, n, V0, V1, D0, D1, P0, P1, hcs, _, hl, hm, hmm, _, hc⟩
  · simp at hcs
    obtain ⟨rfl, rfl, rfl⟩ := hcs
    exact ⟨[], ⟨rfl, Or.inl rfl⟩, Nat.le_refl _, by simp [maxLen]⟩
  · simp at hcs
    obtain ⟨rfl, rfl, rfl⟩ := hcs
    have hlm : len ≤ m := by rw [hmm]; split <;> omega
    have each : ∀ i, i < len → ∃ q : ((Option Addr × Nat × Nat) × (Option Addr × Nat × Nat)) × M.Com, w.cell? (ad.add (i * 2)) = some (.slice q.1.1.1 q.1.1.2.1 q.1.1.2.2) ∧ w.cell? (ad.add (i * 2 + 1)) = some (.slice q.1.2.1 q.1.2.2.1 q.1.2.2.2) ∧ Rd w q.1.1.1 q.1.1.2.1 q.2.1 ∧ Ri w q.1.2.1 q.1.2.2.1 q.2.2 ∧ q.1.1.2.1 ≤ 9223372036854775807 ∧ q.1.2.2.1 ≤ 9223372036854775807 := by
      intro i hi
      obtain ⟨c0, c1, t0, t1⟩ := hc i (by omega)
      obtain ⟨a1, n1, k1, l1, e0, r1, m1⟩ := open_rowsC t0
      obtain ⟨a2, n2, k2, l2, e1, r2, m2⟩ := open_intsC t1
      simp at e0 e1
      rw [e0] at c0
      rw [e1] at c1
      exact ⟨(((a1, n1, k1), (a2, n2, k2)), (l1, l2)), c0, c1, r1, r2, m1, m2⟩
    obtain ⟨q, hq⟩ := choose_lt each
    refine ⟨(List.range len).map fun i => (q i).2, ⟨by simp, ?_⟩, hl, hm⟩
    by_cases h0 : len = 0
    · exact Or.inl h0
    · obtain ⟨b, off, spot⟩ := ad
      have hs : spot = none := by
        have h1 := (hq 0 (by omega)).1
        simpa [Addr.add] using World.cell?_spot h1
      subst hs
      refine Or.inr ⟨b, off, rfl, World.block_lt_of_cell? w _ (hq 0 (by omega)).1, fun i hi => ?_⟩
      have h1 := hq i hi
      rw [Addr.add_lit, Addr.add_lit, ← Nat.add_assoc] at h1
      have e : ((List.range len).map fun i => (q i).2).getD i ([], []) = (q i).2 := by simp [List.getD, hi]
      rw [e]
      exact ⟨_, _, _, _, _, _, h1⟩
end
end Go.Proofs.YtcgpgflnihjpiagGreat
namespace Go.Proofs.YtcgpgflnihjpiagGreat
open Go.ChangeShapes Go.WideShapes Go.ChangeAt Go.RowKit Go.Deep
section
variable {H : Type} {enc : TypeId × Value → H} {w : World} {base : Nat} {spare : Nat → Bool} {held : Bool}
theorem open_comsC {fuel : Nat} {v : Value} {x : DataW H × List MemPlace} (h : DataW.trod enc Tryz.prog w base spare held fuel 32 [v] = some x) :
    ∃ a len cap L, v = .slice a len cap ∧ Cm w a len L ∧ len ≤ cap ∧ cap ≤ maxLen := by
  rcases open_slice_pairs Tryz.underlying32 Tryz.underlying54 (by kernel_rfl) rfl rfl (by kernel_rfl) (by kernel_rfl) h with ⟨hcs, _⟩ | ⟨ad, len', cap', m, n, V0, V1, D0, D1, P0, P1, hcs, _⟩
  · simp at hcs
    subst hcs
    obtain ⟨L, r⟩ := open_coms h
    exact ⟨none, 0, 0, L, rfl, r⟩
  · simp at hcs
    subst hcs
    obtain ⟨L, r⟩ := open_coms h
    exact ⟨some ad, len', cap', L, rfl, r⟩
theorem open_headsC {fuel : Nat} {v : Value} {x : DataW H × List MemPlace} (h : DataW.trod enc Tryz.prog w base spare held fuel 33 [v] = some x) :
    ∃ a len cap L, v = .slice a len cap ∧ Hs w a len L ∧ len ≤ cap ∧ cap ≤ maxLen ∧ (a = none → len = 0 ∧ cap = 0) := by
  rcases open_slice_pairs Tryz.underlying33 Tryz.underlying58 (by kernel_rfl) rfl rfl (by kernel_rfl) (by kernel_rfl) h with ⟨hcs, _⟩ | ⟨ad, len, cap, m, n, V0, V1, D0, D1, P0, P1, hcs, _, hl, hm, hmm, _, hc⟩
  · simp at hcs
    subst hcs
    exact ⟨none, 0, 0, [], rfl, ⟨rfl, Or.inl rfl⟩, Nat.le_refl _, by simp [maxLen], fun _ => ⟨rfl, rfl⟩⟩
  · simp at hcs
    subst hcs
    have hlm : len ≤ m := by rw [hmm]; split <;> omega
    have each : ∀ i, i < len → ∃ q : M.Hd, w.cell? (ad.add (i * 2)) = some (.string q.1) ∧ w.cell? (ad.add (i * 2 + 1)) = some (.int .i64 q.2) ∧ q.1.size ≤ 9223372036854775807 := by
      intro i hi
      obtain ⟨c0, c1, t0, t1⟩ := hc i (by omega)
      obtain ⟨s0, e0, _, z0⟩ := DataW.trod_string Tryz.underlying9 t0
      obtain ⟨x1, e1, _, _⟩ := DataW.trod_int (k := .i64) Tryz.underlying3 t1
      simp at e0 e1
      rw [e0] at c0
      rw [e1] at c1
      exact ⟨(s0, x1), c0, c1, by unfold maxLen at z0; exact z0⟩
    obtain ⟨q, hq⟩ := choose_lt each
    refine ⟨some ad, len, cap, (List.range len).map q, rfl, ⟨by simp, ?_⟩, hl, hm, fun h => by simp at h⟩
    by_cases h0 : len = 0
    · exact Or.inl h0
    · obtain ⟨b, off, spot⟩ := ad
      have hs : spot = none := by
        have h1 := (hq 0 (by omega)).1
        simpa [Addr.add] using World.cell?_spot h1
      subst hs
      refine Or.inr ⟨b, off, rfl, World.block_lt_of_cell? w _ (hq 0 (by omega)).1, fun i hi => ?_⟩
      have h1 := hq i hi
      rw [Addr.add_lit, Addr.add_lit, ← Nat.add_assoc] at h1
      have e : ((List.range len).map q).getD i M.hd0 = q i := by simp [List.getD, hi]
      rw [e]
      exact h1
end
end Go.Proofs.YtcgpgflnihjpiagGreat
namespace Go.Proofs.YtcgpgflnihjpiagGreat
open Go.ChangeShapes Go.WideShapes Go.ChangeAt Go.RowKit Go.Deep
section
variable {H : Type} {enc : TypeId × Value → H} {w : World} {base : Nat} {spare : Nat → Bool} {held : Bool}
theorem open_rowsN {fuel : Nat} {cs : List Value} {x : DataW H × List MemPlace} (h : DataW.trod enc Tryz.prog w base spare held fuel 47 cs = some x) :
    ∃ a len cap, cs = [.slice a len cap] ∧ (a = none → len = 0 ∧ cap = 0) := by
  rcases open_slice_pairs Tryz.underlying47 Tryz.underlying56 (by kernel_rfl) rfl rfl (by kernel_rfl) (by kernel_rfl) h with ⟨rfl, rfl⟩ | ⟨ad, len, cap, m, n, V0, V1, D0, D1, P0, P1, rfl, _⟩
  · exact ⟨none, 0, 0, rfl, fun _ => ⟨rfl, rfl⟩⟩
  · exact ⟨some ad, len, cap, rfl, fun h => by simp at h⟩
theorem open_intsN {fuel : Nat} {cs : List Value} {x : DataW H × List MemPlace} (h : DataW.trod enc Tryz.prog w base spare held fuel 24 cs = some x) :
    ∃ a len cap, cs = [.slice a len cap] ∧ (a = none → len = 0 ∧ cap = 0) := by
  rcases open_slice1 Tryz.underlying24 (by kernel_rfl) h with ⟨rfl, rfl⟩ | ⟨ad, len, cap, m, n, V, D, Pl, rfl, _⟩
  · exact ⟨none, 0, 0, rfl, fun _ => ⟨rfl, rfl⟩⟩
  · exact ⟨some ad, len, cap, rfl, fun h => by simp at h⟩
theorem open_cn {fuel : Nat} {a : Option Addr} {len cap : Nat} {x : DataW H × List MemPlace} (h : DataW.trod enc Tryz.prog w base spare held fuel 32 [.slice a len cap] = some x) : Cn w a len := by
  rcases open_slice_pairs Tryz.underlying32 Tryz.underlying54 (by kernel_rfl) rfl rfl (by kernel_rfl) (by kernel_rfl) h with ⟨hcs, _⟩ | ⟨ad, len', cap', m, n, V0, V1, D0, D1, P0, P1, hcs, _, hl, hm, hmm, _, hc⟩
  · simp at hcs
    obtain ⟨rfl, rfl, rfl⟩ := hcs
    intro b off e
    simp at e
  · simp at hcs
    obtain ⟨rfl, rfl, rfl⟩ := hcs
    have hlm : len ≤ m := by rw [hmm]; split <;> omega
    intro b off e i hi y k c hor hy
    obtain rfl : ad = ⟨b, off, none⟩ := by simpa using e
    obtain ⟨c0, c1, t0, t1⟩ := hc i (by omega)
    obtain ⟨a1, n1, k1, e0, z0⟩ := open_rowsN t0
    obtain ⟨a2, n2, k2, e1, z1⟩ := open_intsN t1
    simp at e0 e1
    rw [e0, Addr.add_lit] at c0
    rw [e1, Addr.add_lit, ← Nat.add_assoc] at c1
    rcases hor with hcc | hcc
    · rw [hcc] at c0
      simp at c0
      obtain ⟨rfl, rfl, rfl⟩ := c0
      exact z0 hy
    · rw [hcc] at c1
      simp at c1
      obtain ⟨rfl, rfl, rfl⟩ := c1
      exact z1 hy
set_option maxRecDepth 100000 in
theorem open_repoV {r : Reach} {b0 : Nat} {v : Value} {d : DataW H} {p : List MemPlace} (hv : Value.okWide Tryz.prog w r b0 35 v) (h : DataW.Trod enc Tryz.prog w base spare held 35 v d p) :
    ∃ a n cap a2 n2 cap2 C L, v = .agg #[.slice a n cap, .slice a2 n2 cap2] ∧ RepoV w a n cap C a2 n2 cap2 L ∧ n2 ≤ cap2 ∧ cap2 ≤ maxLen := by
  obtain ⟨v0, v1, y0, y1, m, rfl, _, _, h0, h1⟩ := Joins.open_agg2 Tryz.underlying35 (by kernel_rfl) (by kernel_rfl) hv h
  obtain ⟨a, n, cap, C, rfl, c1, c2, c3⟩ := open_comsC h0
  obtain ⟨a2, n2, cap2, L, rfl, l1, l2, l3, l4⟩ := open_headsC h1
  exact ⟨a, n, cap, a2, n2, cap2, C, L, rfl, ⟨c1, open_cn h0, by unfold maxLen at c3; omega, l1, by unfold maxLen at l3; omega, l4⟩, l2, l3⟩
end
end Go.Proofs.YtcgpgflnihjpiagGreat
namespace Go.Proofs.YtcgpgflnihjpiagGreat
open Go.ChangeShapes Go.WideShapes Go.ChangeAt Go.RowKit Go.Deep
theorem M.str_self (s : ByteArray) : M.str s.data.toList = s := by
  unfold M.str; obtain ⟨a⟩ := s; simp
set_option maxRecDepth 100000 in
theorem open_chgC {H : Type} {enc : TypeId × Value → H} {w : World} {base : Nat} {spare : Nat → Bool} {held : Bool} {fuel : Nat} {v : Value} {x : DataW H × List MemPlace}
    (h : DataW.trod enc Tryz.prog w base spare held fuel 28 [v] = some x) : ∃ a len cap l, v = .slice a len cap ∧ Rc w a len l ∧ len ≤ cap ∧ cap ≤ maxLen ∧ (a = none → len = 0 ∧ cap = 0) := by
  rcases open_slice Tryz.underlying28 h with ⟨hcs, _⟩ | ⟨ad, len', cap', m, n, D, Pl, hcs, _⟩
  · simp at hcs
    subst hcs
    obtain ⟨l, h1, h2, h3⟩ := open_changes h
    exact ⟨none, 0, 0, l, rfl, h1, h2, h3, fun _ => ⟨rfl, rfl⟩⟩
  · simp at hcs
    subst hcs
    obtain ⟨l, h1, h2, h3⟩ := open_changes h
    exact ⟨some ad, len', cap', l, rfl, h1, h2, h3, fun h => by simp at h⟩
set_option maxRecDepth 100000 in
theorem open_act {H : Type} {enc : TypeId × Value → H} {w : World} {base : Nat} {spare : Nat → Bool} {held : Bool} {r : Reach} {b0 : Nat} {v : Value} {d : DataW H} {p : List MemPlace} (hv : Value.okWide Tryz.prog w r b0 30 v) (h : DataW.Trod enc Tryz.prog w base spare held 30 v d p) :
    ∃ x a m cap, v = actV x a m cap ∧ Rc w a m x.chs ∧ m ≤ cap ∧ cap ≤ maxLen ∧ (M.str x.one).size ≤ maxLen ∧ (M.str x.two).size ≤ maxLen := by
  obtain ⟨v0, v1, v2, v3, y0, y1, y2, y3, m, rfl, _, _, g0, g1, g2, g3⟩ := Joins.open_agg4 Tryz.underlying30 (by kernel_rfl) (by kernel_rfl) hv h
  obtain ⟨x0, e0, _, _⟩ := DataW.trod_int (k := .i64) Tryz.underlying3 g0
  obtain ⟨s1, e1, _, z1⟩ := DataW.trod_string Tryz.underlying9 g1
  obtain ⟨s2, e2, _, z2⟩ := DataW.trod_string Tryz.underlying9 g2
  obtain ⟨a, len, cap, l, rfl, h1, h2, h3, _⟩ := open_chgC g3
  simp at e0 e1 e2
  subst e0 e1 e2
  refine ⟨⟨x0, s1.data.toList, s2.data.toList, l⟩, a, len, cap, ?_, h1, h2, h3, ?_, ?_⟩
  · unfold actV
    simp only [M.str_self]
  · simp only [M.str_self]; exact z1
  · simp only [M.str_self]; exact z2
end Go.Proofs.YtcgpgflnihjpiagGreat

/- Cut0. -/
namespace Go.Proofs.YtcgpgflnihjpiagGreat.M
def sumFrom (s : Int) : List (Int × Int) → Int
  | [] => s
  | r :: t => sumFrom ((31 * s + 7 * r.1 + r.2 + 1) % 997) t
def sum (l : List (Int × Int)) : Int := sumFrom 1 l
def sumV (l : List (Int × Int)) : Int := if chk l = 0 then sum l else 0
theorem sumFrom_step (s : Int) (l : List (Int × Int)) (k : Nat) (h : k < l.length) (x y : Int) (e : l.getD k (0, 0) = (x, y)) : sumFrom s (l.drop k) = sumFrom ((31 * s + 7 * x + y + 1) % 997) (l.drop (k + 1)) := by
  rw [drop_at l k h, e, sumFrom]
theorem sumFrom_end (s : Int) (l : List (Int × Int)) (k : Nat) (h : l.length ≤ k) : sumFrom s (l.drop k) = s := by
  rw [List.drop_eq_nil_of_le h]; rfl
theorem sumFrom_range (s : Int) (l : List (Int × Int)) (h0 : 0 ≤ s) (h1 : s ≤ 996) : 0 ≤ sumFrom s l ∧ sumFrom s l ≤ 996 := by
  induction l generalizing s with
  | nil => exact ⟨h0, h1⟩
  | cons r t ih => rw [sumFrom]; exact ih _ (by omega) (by omega)
def endsB (level x y : Int) : Bool := decide ((7 * x + 13 * y + 5 * level) % 3 = 0)
def right (level x y : Int) : Bool := decide (0 ≤ x ∧ x ≤ 99 ∧ 0 ≤ y ∧ y ≤ 996 ∧ 0 ≤ level ∧ level ≤ 9)
def ends (level x y : Int) : Bool := right level x y && endsB level x y
theorem ends_no {level x y : Int} (h : right level x y = false) : ends level x y = false := by unfold ends; rw [h]; rfl
theorem ends_yes {level x y : Int} (h : right level x y = true) : ends level x y = endsB level x y := by unfold ends; rw [h]; rfl
def lenFrom (level : Int) (n : Nat) : List (Int × Int) → Nat
  | [] => n
  | r :: t => if n + 1 = 6 ∨ (2 ≤ n + 1 ∧ ends level r.1 r.2 = true) then n + 1 else lenFrom level (n + 1) t
def len (level : Int) (l : List (Int × Int)) : Nat := lenFrom level 0 l
theorem lenFrom_stop (level : Int) (n : Nat) (l : List (Int × Int)) (k : Nat) (h : k < l.length) (x y : Int) (e : l.getD k (0, 0) = (x, y)) (hs : n + 1 = 6 ∨ (2 ≤ n + 1 ∧ ends level x y = true)) : lenFrom level n (l.drop k) = n + 1 := by
  rw [drop_at l k h, e, lenFrom, if_pos hs]
theorem lenFrom_go (level : Int) (n : Nat) (l : List (Int × Int)) (k : Nat) (h : k < l.length) (x y : Int) (e : l.getD k (0, 0) = (x, y)) (hs : ¬ (n + 1 = 6 ∨ (2 ≤ n + 1 ∧ ends level x y = true))) : lenFrom level n (l.drop k) = lenFrom level (n + 1) (l.drop (k + 1)) := by
  rw [drop_at l k h, e, lenFrom, if_neg hs]
theorem lenFrom_end (level : Int) (n : Nat) (l : List (Int × Int)) (k : Nat) (h : l.length ≤ k) : lenFrom level n (l.drop k) = n := by
  rw [List.drop_eq_nil_of_le h]; rfl
theorem lenFrom_bound (level : Int) (n : Nat) (l : List (Int × Int)) : n ≤ lenFrom level n l ∧ lenFrom level n l ≤ n + l.length := by
  induction l generalizing n with
  | nil => simp [lenFrom]
  | cons r t ih =>
    rw [lenFrom]
    rw [List.length_cons]
    split
    · omega
    · have := ih (n + 1); omega
theorem len_pos (level : Int) (l : List (Int × Int)) (h : l ≠ []) : 0 < len level l ∧ len level l ≤ l.length := by
  cases l with
  | nil => exact absurd rfl h
  | cons r t =>
    unfold len
    rw [lenFrom, List.length_cons]
    split
    · omega
    · have := lenFrom_bound level (0 + 1) t; omega
def cutF (level : Int) : Nat → List (Int × Int) → List (List (Int × Int))
  | 0, _ => []
  | f + 1, l => if l = [] then [] else l.take (len level l) :: cutF level f (l.drop (len level l))
def cut (level : Int) (l : List (Int × Int)) : List (List (Int × Int)) := cutF level l.length l
theorem cutF_nil (level : Int) (f : Nat) : cutF level f [] = [] := by cases f <;> simp [cutF]
theorem cutF_more (level : Int) (f g : Nat) (l : List (Int × Int)) (hf : l.length ≤ f) (hg : l.length ≤ g) : cutF level f l = cutF level g l := by
  induction f generalizing g l with
  | zero =>
    have : l = [] := List.eq_nil_of_length_eq_zero (by omega)
    subst this
    rw [cutF_nil, cutF_nil]
  | succ f ih =>
    cases g with
    | zero =>
      have : l = [] := List.eq_nil_of_length_eq_zero (by omega)
      subst this
      rw [cutF_nil, cutF_nil]
    | succ g =>
      rw [cutF, cutF]
      by_cases h : l = []
      · rw [if_pos h, if_pos h]
      · rw [if_neg h, if_neg h]
        have hp := len_pos level l h
        rw [ih g (l.drop (len level l)) (by rw [List.length_drop]; omega) (by rw [List.length_drop]; omega)]
theorem cut_nil (level : Int) : cut level [] = [] := rfl
theorem cut_step (level : Int) (l : List (Int × Int)) (h : l ≠ []) : cut level l = l.take (len level l) :: cut level (l.drop (len level l)) := by
  unfold cut
  have hp := len_pos level l h
  obtain ⟨f, hf⟩ : ∃ f, l.length = f + 1 := ⟨l.length - 1, by omega⟩
  conv => lhs; rw [hf, cutF, if_neg h]
  rw [cutF_more level f (l.drop (len level l)).length _ (by rw [List.length_drop]; omega) (Nat.le_refl _)]
end Go.Proofs.YtcgpgflnihjpiagGreat.M

/- Sum. -/
namespace Go.Proofs.YtcgpgflnihjpiagGreat
open Go.RowKit
theorem level_yes (x : Int) (w : World) (h1 : 0 ≤ x) (h2 : x ≤ 9) :
    Calls Tryz.prog 92 #[.int .i64 x] w fun e w' => e = .returned (.bool true) ∧ w' = w := by
  go_enter Tryz.func92, Tryz.ntmps92
  go_wp2
  go_ret
  exact ⟨rfl, rfl⟩
theorem level_no (x : Int) (w : World) (h : x < 0 ∨ 9 < x) :
    Calls Tryz.prog 92 #[.int .i64 x] w fun e w' => e = .returned (.bool false) ∧ w' = w := by
  by_cases h1 : 0 ≤ x
  · have hd : decide (x ≤ 9) = false := by simp; omega
    have h2 : 9 < x := by omega
    clear h
    go_enter Tryz.func92, Tryz.ntmps92
    go_wp2
    go_ret
    exact ⟨rfl, rfl⟩
  · have h2 : x < 0 := by omega
    clear h h1
    go_enter Tryz.func92, Tryz.ntmps92
    go_wp2
    go_ret
    exact ⟨rfl, rfl⟩
theorem sum_bad (a : Option Addr) (n cap : Nat) (l : List (Int × Int)) (w : World) (h : Rd w a n l) (hm : n ≤ 9223372036854775807) (hb : M.chk l ≠ 0) :
    Calls Tryz.prog 123 #[.slice a n cap] w fun e w' => e = .returned (.tuple #[.int .i64 0, .int .i64 (M.chk l)]) ∧ Below w.heap.size w w' := by
  have H := check_any a n cap l w h hm
  obtain ⟨c, hc⟩ : ∃ c, c = M.chk l := ⟨_, rfl⟩
  rw [← hc] at H hb ⊢
  clear hc h
  have hne : (c != 0) = true := by simp [hb]
  clear hb
  have HH : Hid (Calls Tryz.prog 47 #[.slice a n cap] w fun e w' => e = .returned (.int .i64 c) ∧ Below w.heap.size w w') := H
  clear H
  go_enter Tryz.func123, Tryz.ntmps123
  go_wp2_with (go_at_call 47; refine HH.out.mono ?_; rintro e w' ⟨rfl, hb1⟩)
  go_ret2
  exact ⟨rfl, hb1⟩
theorem sum_none (a : Option Addr) (cap : Nat) (w : World) :
    Calls Tryz.prog 123 #[.slice a 0 cap] w fun e w' => e = .returned (.tuple #[.int .i64 1, .int .i64 0]) ∧ Below w.heap.size w w' := by
  go_enter Tryz.func123, Tryz.ntmps123
  go_wp2_with (go_at_call 47; refine (check_none a cap _).mono ?_; rintro e w' ⟨rfl, rfl⟩)
  refine wp_loop_rounds 1 ?_
  rw [rounds_succ]
  go_wp2
  go_ret2
  exact ⟨rfl, Below.refl _ _⟩
set_option maxHeartbeats 2000000 in
theorem sum_some (b off n cap : Nat) (l : List (Int × Int)) (w : World) (hn : n ≤ 40) (hl : l.length = n) (hB : b < w.heap.size) (h0 : M.chk l = 0)
    (hc : ∀ i, i < n → w.cell? ⟨b, off + i * 2, none⟩ = some (.int .i64 (l.getD i (0, 0)).1) ∧ w.cell? ⟨b, off + i * 2 + 1, none⟩ = some (.int .i64 (l.getD i (0, 0)).2)) :
    Calls Tryz.prog 123 #[.slice (some ⟨b, off, none⟩) n cap] w fun e w' => e = .returned (.tuple #[.int .i64 (M.sum l), .int .i64 0]) ∧ Below w.heap.size w w' := by
  have H := check_any (some ⟨b, off, none⟩) n cap l w ⟨hl, Or.inr ⟨b, off, rfl, hB, hc⟩⟩ (by omega)
  rw [h0] at H
  have HH : Hid (Calls Tryz.prog 47 #[.slice (some ⟨b, off, none⟩) n cap] w fun e w' => e = .returned (.int .i64 0) ∧ Below w.heap.size w w') := H
  have HOk : Aside (M.Ok l) := ((M.chk_zero l).1 h0).2
  have HC : Aside (∀ i, i < n → w.cell? ⟨b, off + i * 2, none⟩ = some (.int .i64 (l.getD i (0, 0)).1) ∧ w.cell? ⟨b, off + i * 2 + 1, none⟩ = some (.int .i64 (l.getD i (0, 0)).2)) := hc
  have HL : Aside (l.length = n) := hl
  clear hc hl h0 H
  go_enter Tryz.func123, Tryz.ntmps123
  go_wp2_with (go_at_call 47; refine HH.out.mono ?_; rintro e w1 ⟨rfl, hb1⟩)
  go_loopg [5, 15] n (fun g s i wr => ∃ (k : Nat) (q : Int), k + g = n ∧ 0 ≤ q ∧ q ≤ 996 ∧ i = .int .i64 k ∧ s = .int .i64 q ∧ Below w.heap.size w wr ∧ Aside (M.sumFrom q (l.drop k) = M.sum l))
  case atStart => exact ⟨0, 1, by omega, by omega, by omega, rfl, rfl, hb1, by simp [Aside, M.sum]⟩
  case round =>
    obtain ⟨k, q, hk, hq0, hq1, rfl, rfl, hbel, A⟩ := hrel
    have hsz := hbel.size
    by_cases hlt : k < n
    · obtain ⟨x, y, hxy⟩ : ∃ x y, l.getD k (0, 0) = (x, y) := ⟨_, _, rfl⟩
      have c0 : wr.cell? ⟨b, off + k * 2, none⟩ = some (.int .i64 x) := by rw [hbel.cell (p := ⟨b, off + k * 2, none⟩) hB, (HC.out k hlt).1, hxy]
      have c1 : wr.cell? ⟨b, off + k * 2 + 1, none⟩ = some (.int .i64 y) := by rw [hbel.cell (p := ⟨b, off + k * 2 + 1, none⟩) hB, (HC.out k hlt).2, hxy]
      have hr := HOk.out.1 (l.getD k (0, 0)) (M.getD_mem l k (by rw [HL.out]; exact hlt))
      rw [hxy] at hr
      obtain ⟨x0, x1, y0, y1⟩ : 0 ≤ x ∧ x ≤ 99 ∧ 0 ≤ y ∧ y ≤ 996 := hr
      have HXY : Aside (l.getD k (0, 0) = (x, y)) := hxy
      clear hxy
      go_wp2
      go_roundg (gk - 1)
      case measure => omega
      case rel => exact ⟨k + 1, (31 * q + 7 * x + y + 1) % 997, by omega, by omega, by omega, by go_num, by go_num, hbel.alloc hsz _, by unfold Aside; rw [← A.out, M.sumFrom_step q l k (by rw [HL.out]; exact hlt) x y HXY.out]⟩
    · go_wp2
      go_ret2
      exact ⟨ret_two (A.out.symm.trans (M.sumFrom_end q l k (by rw [HL.out]; omega))).symm, hbel⟩
theorem sum_any (a : Option Addr) (n cap : Nat) (l : List (Int × Int)) (w : World) (h : Rd w a n l) (hm : n ≤ 9223372036854775807) :
    Calls Tryz.prog 123 #[.slice a n cap] w fun e w' => e = .returned (.tuple #[.int .i64 (M.sumV l), .int .i64 (M.chk l)]) ∧ Below w.heap.size w w' := by
  by_cases h0 : M.chk l = 0
  · rw [M.sumV, if_pos h0, h0]
    rcases h.cases with ⟨rfl, rfl⟩ | ⟨b, off, rfl, hn, hl, hB, hc⟩
    · exact sum_none a cap w
    · exact sum_some b off n cap l w (by rw [← hl]; exact ((M.chk_zero l).1 h0).1) hl hB h0 hc
  · rw [M.sumV, if_neg h0]
    exact sum_bad a n cap l w h hm h0
theorem chk_one (x y : Int) : M.chk [(x, y)] = if 0 ≤ x ∧ x ≤ 99 ∧ 0 ≤ y ∧ y ≤ 996 then 0 else 1 := by
  unfold M.chk M.chkFrom M.bad
  by_cases h : 0 ≤ x ∧ x ≤ 99 ∧ 0 ≤ y ∧ y ≤ 996
  · rw [if_pos h]; simp [M.chkFrom]; omega
  · rw [if_neg h]; simp; omega
theorem box_rd (w : World) (x y : Int) : Rd ((w.alloc (.cells #[.int .i64 x, .int .i64 y] 56)).alloc (.cells #[.int .i64 x, .int .i64 y] 56)) (some ⟨w.heap.size + 1, 0, none⟩) 1 [(x, y)] := by
  refine ⟨rfl, Or.inr ⟨w.heap.size + 1, 0, rfl, by simp, fun i hi => ?_⟩⟩
  obtain rfl : i = 0 := by omega
  constructor <;> simp [go_sem]
set_option maxHeartbeats 2000000 in
theorem ends_any (x y level : Int) (w : World) :
    Calls Tryz.prog 149 #[.agg #[.int .i64 x, .int .i64 y], .int .i64 level] w fun e w' => e = .returned (.bool (M.ends level x y)) ∧ Below w.heap.size w w' := by
  have H := check_any (some ⟨w.heap.size + 1, 0, none⟩) 1 1 [(x, y)] _ (box_rd w x y) (by omega)
  rw [chk_one] at H
  obtain ⟨W, hW⟩ : ∃ W, W = (w.alloc (.cells #[.int .i64 x, .int .i64 y] 56)).alloc (.cells #[.int .i64 x, .int .i64 y] 56) := ⟨_, rfl⟩
  rw [← hW] at H
  have hbW : Below w.heap.size w W := by rw [hW]; exact ((Below.refl _ _).alloc (Nat.le_refl _) _).alloc (by simp) _
  have c0 : W.cell? ⟨w.heap.size, 0, none⟩ = some (.int .i64 x) := by rw [hW]; simp [go_sem]
  have c1 : W.cell? ⟨w.heap.size, 1, none⟩ = some (.int .i64 y) := by rw [hW]; simp [go_sem]
  have hsz : w.heap.size < W.heap.size := by rw [hW]; simp; omega
  have HW : Hid (W = (w.alloc (.cells #[.int .i64 x, .int .i64 y] 56)).alloc (.cells #[.int .i64 x, .int .i64 y] 56)) := hW
  clear hW
  by_cases h : 0 ≤ x ∧ x ≤ 99 ∧ 0 ≤ y ∧ y ≤ 996
  · rw [if_pos h] at H
    have HH : Hid (Calls Tryz.prog 47 #[.slice (some ⟨w.heap.size + 1, 0, none⟩) 1 1] W fun e w' => e = .returned (.int .i64 0) ∧ Below W.heap.size W w') := H
    clear H
    obtain ⟨x0, x1, y0, y1⟩ := h
    by_cases hl : 0 ≤ level ∧ level ≤ 9
    · obtain ⟨l0, l1⟩ := hl
      have e1 : M.ends level x y = ((7 * x + 13 * y + 5 * level) % 3 == 0) := by rw [M.ends_yes (by simp [M.right]; omega), M.endsB, Bool.eq_iff_iff]; simp
      have E1 : Hid (M.ends level x y = ((7 * x + 13 * y + 5 * level) % 3 == 0)) := e1
      clear e1
      go_enter Tryz.func149, Tryz.ntmps149
      go_wp2_with fail
      rw [← HW.out]
      refine HH.out.mono ?_
      rintro e w1 ⟨rfl, b1⟩
      have b2 := hbW.trans (b1.mono hbW.size)
      have d0 := (b1.cell (p := ⟨w.heap.size, 0, none⟩) hsz).trans c0
      have d1 := (b1.cell (p := ⟨w.heap.size, 1, none⟩) hsz).trans c1
      clear c0 c1 b1
      go_wp2_with fail
      refine (level_yes level _ l0 l1).mono ?_
      rintro e w2 ⟨rfl, rfl⟩
      go_wp2
      go_ret
      exact ⟨ret_bool E1.out.symm, b2⟩
    · have e1 : M.ends level x y = false := M.ends_no (by simp [M.right]; omega)
      have E1 : Hid (M.ends level x y = false) := e1
      have HL : Hid (level < 0 ∨ 9 < level) := by unfold Hid; omega
      clear e1 hl
      go_enter Tryz.func149, Tryz.ntmps149
      go_wp2_with fail
      rw [← HW.out]
      refine HH.out.mono ?_
      rintro e w1 ⟨rfl, b1⟩
      have b2 := hbW.trans (b1.mono hbW.size)
      go_wp2_with fail
      refine (level_no level _ HL.out).mono ?_
      rintro e w2 ⟨rfl, rfl⟩
      go_wp2
      go_ret
      exact ⟨ret_bool E1.out.symm, b2⟩
  · rw [if_neg h] at H
    have HH : Hid (Calls Tryz.prog 47 #[.slice (some ⟨w.heap.size + 1, 0, none⟩) 1 1] W fun e w' => e = .returned (.int .i64 1) ∧ Below W.heap.size W w') := H
    clear H
    have e1 : M.ends level x y = false := M.ends_no (by simp [M.right]; omega)
    have E1 : Hid (M.ends level x y = false) := e1
    clear e1 h
    go_enter Tryz.func149, Tryz.ntmps149
    go_wp2_with fail
    rw [← HW.out]
    refine HH.out.mono ?_
    rintro e w1 ⟨rfl, b1⟩
    have b2 := hbW.trans (b1.mono hbW.size)
    go_wp2
    go_ret
    exact ⟨ret_bool E1.out.symm, b2⟩
end Go.Proofs.YtcgpgflnihjpiagGreat
namespace Go.Proofs.YtcgpgflnihjpiagGreat
open Go.RowKit
theorem first_none (a : Option Addr) (cap : Nat) (level : Int) (w : World) :
    Calls Tryz.prog 125 #[.slice a 0 cap, .int .i64 level] w fun e w' => e = .returned (.int .i64 0) ∧ w' = w := by
  go_enter Tryz.func125, Tryz.ntmps125
  go_wp2
  refine wp_loop_rounds 1 ?_
  rw [rounds_succ]
  go_wp2
  go_ret
  exact ⟨rfl, rfl⟩
theorem ret_nat {k : IntKind} {a b : Nat} (h : a = b) : Ending.returned (.int k (a : Int)) = .returned (.int k (b : Int)) := by rw [h]
set_option maxHeartbeats 4000000 in
theorem first_some (b off n cap : Nat) (l : List (Int × Int)) (level : Int) (w : World) (hn : n ≤ 40) (hl : l.length = n) (hB : b < w.heap.size)
    (hc : ∀ i, i < n → w.cell? ⟨b, off + i * 2, none⟩ = some (.int .i64 (l.getD i (0, 0)).1) ∧ w.cell? ⟨b, off + i * 2 + 1, none⟩ = some (.int .i64 (l.getD i (0, 0)).2)) :
    Calls Tryz.prog 125 #[.slice (some ⟨b, off, none⟩) n cap, .int .i64 level] w fun e w' => e = .returned (.int .i64 (M.len level l)) ∧ Below w.heap.size w w' := by
  have HC : Aside (∀ i, i < n → w.cell? ⟨b, off + i * 2, none⟩ = some (.int .i64 (l.getD i (0, 0)).1) ∧ w.cell? ⟨b, off + i * 2 + 1, none⟩ = some (.int .i64 (l.getD i (0, 0)).2)) := hc
  have HL : Aside (l.length = n) := hl
  clear hc hl
  go_enter Tryz.func125, Tryz.ntmps125
  go_wp2
  go_loopg [10] n (fun g i wr => ∃ k : Nat, k + g = n ∧ i = .int .i64 k ∧ Below w.heap.size w wr ∧ Aside (M.lenFrom level k (l.drop k) = M.len level l))
  case atStart => exact ⟨0, by omega, rfl, Below.refl _ _, by simp [Aside, M.len]⟩
  case round =>
    obtain ⟨k, hk, rfl, hbel, A⟩ := hrel
    have hsz := hbel.size
    by_cases hlt : k < n
    · obtain ⟨x, y, hxy⟩ : ∃ x y, l.getD k (0, 0) = (x, y) := ⟨_, _, rfl⟩
      have c0 : wr.cell? ⟨b, off + k * 2, none⟩ = some (.int .i64 x) := by rw [hbel.cell (p := ⟨b, off + k * 2, none⟩) hB, (HC.out k hlt).1, hxy]
      have c1 : wr.cell? ⟨b, off + k * 2 + 1, none⟩ = some (.int .i64 y) := by rw [hbel.cell (p := ⟨b, off + k * 2 + 1, none⟩) hB, (HC.out k hlt).2, hxy]
      have HXY : Aside (l.getD k (0, 0) = (x, y)) := hxy
      clear hxy
      by_cases h6 : k + 1 = 6
      · obtain rfl : k = 5 := by omega
        go_wp2
        go_ret
        exact ⟨ret_nat (a := 6) (A.out.symm.trans (M.lenFrom_stop level 5 l 5 (by rw [HL.out]; exact hlt) x y HXY.out (Or.inl rfl))).symm, hbel.alloc hsz _⟩
      · have h6b : ((k : Int) + 1 == 6) = false := by simp; omega
        by_cases h2 : 2 ≤ k + 1
        · have h1 : 1 ≤ k := by omega
          obtain ⟨e, he⟩ : ∃ e, e = M.ends level x y := ⟨_, rfl⟩
          have HE : Aside (e = M.ends level x y) := he
          clear he
          cases e with
          | true =>
            go_wp2_with (go_at_call 149; refine (ends_any x y level _).mono ?_; rintro e w' ⟨rfl, hb1⟩; rw [← HE.out])
            have hb2 := (hbel.alloc hsz (.cells #[.int .i64 x, .int .i64 y] 56)).trans (hb1.mono (by simp; omega))
            go_ret
            exact ⟨ret_nat (a := k + 1) (A.out.symm.trans (M.lenFrom_stop level k l k (by rw [HL.out]; exact hlt) x y HXY.out (Or.inr ⟨h2, HE.out.symm⟩))).symm, hb2⟩
          | false =>
            go_wp2_with (go_at_call 149; refine (ends_any x y level _).mono ?_; rintro e w' ⟨rfl, hb1⟩; rw [← HE.out])
            have hb2 := (hbel.alloc hsz (.cells #[.int .i64 x, .int .i64 y] 56)).trans (hb1.mono (by simp; omega))
            go_roundg (gk - 1)
            case measure => omega
            case rel => exact ⟨k + 1, by omega, by go_num, hb2, by unfold Aside; rw [← A.out, M.lenFrom_go level k l k (by rw [HL.out]; exact hlt) x y HXY.out (by rw [← HE.out]; simp; omega)]⟩
        · have hk1 : k < 1 := by omega
          have hkd : decide (1 ≤ k) = false := by simp; omega
          clear h2
          go_wp2
          go_roundg (gk - 1)
          case measure => omega
          case rel => exact ⟨k + 1, by omega, by go_num, hbel.alloc hsz _, by unfold Aside; rw [← A.out, M.lenFrom_go level k l k (by rw [HL.out]; exact hlt) x y HXY.out (by omega)]⟩
    · go_wp2
      go_ret
      exact ⟨ret_nat (a := n) (A.out.symm.trans ((M.lenFrom_end level k l k (by rw [HL.out]; omega)).trans (by omega))).symm, hbel⟩
theorem first_any (a : Option Addr) (n cap : Nat) (l : List (Int × Int)) (level : Int) (w : World) (h : Rd w a n l) (hn : n ≤ 40) :
    Calls Tryz.prog 125 #[.slice a n cap, .int .i64 level] w fun e w' => e = .returned (.int .i64 (M.len level l)) ∧ Below w.heap.size w w' := by
  rcases h.cases with ⟨rfl, rfl⟩ | ⟨b, off, rfl, hn0, hl, hB, hc⟩
  · refine (first_none a cap level w).mono ?_
    rintro e w' ⟨rfl, rfl⟩
    exact ⟨rfl, Below.refl _ _⟩
  · exact first_some b off n cap l level w hn hl hB hc
theorem clone_some (b off n cap : Nat) (l : List (Int × Int)) (w : World) (hn : n ≤ 1000) (h : Rd w (some ⟨b, off, none⟩) n l) :
    Calls Tryz.prog 94 #[.slice (some ⟨b, off, none⟩) n cap] w fun e w' => ∃ v, e = .returned v ∧ Own w' w.heap.size v l ∧ Below w.heap.size w w' := by
  have hnn : ∀ W, (binOp .eql 47 (.slice (some ⟨b, off, none⟩) n cap) (.slice none 0 0)).run Tryz.prog W = .ok (.bool false) W := fun W => by
    have h := Lib.run_eql_slice_nil (P := Tryz.prog) W 47 56 (some ⟨b, off, none⟩) n cap 0 0 Tryz.underlying47
    simpa using h
  have HR : Hid (Rd (w.alloc (.cells #[] 56)) (some ⟨b, off, none⟩) n l) := h.below ((Below.refl _ _).alloc (Nat.le_refl _) _) (Nat.le_refl _)
  have HO : Hid (Own (w.alloc (.cells #[] 56)) w.heap.size (.slice (some ⟨w.heap.size, 0, none⟩) 0 0) []) := World.ownsRow_made (base := w.heap.size) (e := 56) (size := 2) w #[] 0 (Nat.le_refl _) (by simp [maxLen]) rfl
  clear h
  go_enter Tryz.func94, Tryz.ntmps94
  go_wp2_with (at_builtin; refine append_rd rfl _ _ rfl w.heap.size _ [] rfl HO.out (some ⟨b, off, none⟩) n cap l rfl HR.out (by simp) (by simp; omega) (by simp) ?_)
  intro v' w' ho' hb3
  have HO' : Hid (Own w' w.heap.size v' l) := ho'
  have hb4 : Below w.heap.size w w' := ((Below.refl _ _).alloc (Nat.le_refl _) _).trans hb3
  clear ho' hb3
  go_wp2
  go_ret
  exact ⟨_, rfl, HO'.out, hb4⟩
end Go.Proofs.YtcgpgflnihjpiagGreat
namespace Go.Proofs.YtcgpgflnihjpiagGreat
open Go.RowKit Go.Shelf
attribute [local go_sem] Oper.semAt_some
def Sl (w : World) (a : Option Addr) (n cap : Nat) (l : List (Int × Int)) : Prop := Rd w a n l ∧ n ≤ cap ∧ cap ≤ maxLen ∧ (a = none → n = 0 ∧ cap = 0)
def KeepBut (B m : Nat) (W W' : World) : Prop := Below B W W' ∧ ∀ k, B < k → k < m → W'.heap[k]? = W.heap[k]?
theorem KeepBut.trans {B m : Nat} {A W C : World} (h : KeepBut B m A W) (k : KeepBut B m W C) : KeepBut B m A C :=
  ⟨h.1.trans k.1, fun i h1 h2 => (k.2 i h1 h2).trans (h.2 i h1 h2)⟩
theorem KeepBut.refl (B m : Nat) (W : World) : KeepBut B m W W := ⟨Below.refl _ _, fun _ _ _ => rfl⟩
theorem KeepBut.cell {B m : Nat} {W W' : World} (h : KeepBut B m W W') {p : Addr} (h1 : p.block ≠ B) (h2 : p.block < m) : W'.cell? p = W.cell? p := by
  by_cases hlt : p.block < B
  · exact h.1.cell hlt
  · exact World.cell?_of_block (w := W) (h.2 p.block (by omega) h2)
def Piece (w : World) (B : Nat) : Type := { x : (Option Addr × Nat × Nat) × List (Int × Int) // (∃ b off, x.1.1 = some ⟨b, off, none⟩ ∧ b < B) ∧ Sl w x.1.1 x.1.2.1 x.1.2.2 x.2 ∧ x.1.2.1 ≤ 40 }
def Piece.val {w : World} {B : Nat} (x : Piece w B) : Value := .slice x.1.1.1 x.1.1.2.1 x.1.1.2.2
def Piece.rows {w : World} {B : Nat} (x : Piece w B) : List (Int × Int) := x.1.2
theorem Rd.keep {w w' : World} {b off n B : Nat} {l : List (Int × Int)} (h : Rd w (some ⟨b, off, none⟩) n l) (hb : b < B) (hB : Below B w w') : Rd w' (some ⟨b, off, none⟩) n l := by
  obtain ⟨h1, h2⟩ := h
  refine ⟨h1, ?_⟩
  rcases h2 with h2 | ⟨b', off', ha, hlt, hc⟩
  · exact Or.inl h2
  · obtain ⟨rfl, rfl⟩ : b = b' ∧ off = off' := by simpa using ha
    refine Or.inr ⟨b, off, rfl, Nat.lt_of_lt_of_le hlt hB.size, fun i hi => ?_⟩
    rw [hB.cell (p := ⟨b, off + i * 2, none⟩) hb, hB.cell (p := ⟨b, off + i * 2 + 1, none⟩) hb]
    exact hc i hi
theorem grown_none {w w' : World} (h : Below w.heap.size w w') : w.grownBy w' none := ⟨h.os, h.tape, h.output, h.size, fun k hk _ => h.block k hk⟩
def lenV : Value → Nat | .slice _ n _ => n | _ => 0
theorem keep_below {B m : Nat} {W W' : World} (h : Below W.heap.size W W') (h1 : B ≤ W.heap.size) (h2 : m ≤ W.heap.size) : KeepBut B m W W' := ⟨h.mono h1, fun k _ hk => h.block k (by omega)⟩
set_option maxRecDepth 100000 in
set_option maxHeartbeats 4000000 in
theorem chunks1_in (n0 lp p q b off n cap B m : Nat) (l : List (Int × Int)) (level : Int) (w : World) (hn : 1 ≤ n0) (h40 : n ≤ 40) (hcap : n ≤ cap) (hcm : cap ≤ maxLen) (hbB : b < B)
    (J Jx : List (Piece w B) → World → Prop) (W : World) (hW : Below B w W)
    (hY : ∀ pre x W1, J pre W1 → pre.length < 40 → YieldAt Fence.wide (n0 - 1) Tryz.prog lp #[Piece.val x] W1 fun e W' =>
      (e = .returned (.bool true) ∧ J (pre ++ [x]) W' ∧ KeepBut B m W1 W') ∨ (e = .returned (.bool false) ∧ Jx (pre ++ [x]) W'))
    (hR : Rd w (some ⟨b, off, none⟩) n l) (hp : W.cell? ⟨p, 0, none⟩ = some (.slice (some ⟨b, off, none⟩) n cap)) (hq : W.cell? ⟨q, 0, none⟩ = some (.int .i64 level)) (hBm : B ≤ m) (hqB : q ≠ B) (hqm : q < m) (hmW : m ≤ W.heap.size) (h0 : J [] W) (hJ : AbidesFrom W.heap.size J) :
    CallsIn Fence.wide n0 Tryz.prog 124 #[.func (.yield lp) #[] #[], .pointer (some ⟨p, 0, none⟩), .pointer (some ⟨q, 0, none⟩)] W fun e W' => (∃ v, e = .returned v) ∧
      ((∃ xs : List (Piece w B), xs.map Piece.rows = M.cut level l ∧ J xs W') ∨ (∃ pre, True ∧ Jx pre W')) := by
  refine callsIn_of_wp Tryz.func124 rfl trivial ?_ rfl
  simp only [Tryz.ntmps124, List.size_toArray, List.length_cons, List.length_nil, Nat.reduceAdd, Nat.reduceSub, Array.replicate_succ, Array.replicate_zero, List.push_toArray, List.append_toArray, List.nil_append, List.cons_append]
  have HR : Aside (Rd w (some ⟨b, off, none⟩) n l) := hR
  have HY : Aside (∀ pre x W1, J pre W1 → pre.length < 40 → YieldAt Fence.wide (n0 - 1) Tryz.prog lp #[Piece.val x] W1 fun e W' =>
      (e = .returned (.bool true) ∧ J (pre ++ [x]) W' ∧ KeepBut B m W1 W') ∨ (e = .returned (.bool false) ∧ Jx (pre ++ [x]) W')) := hY
  have HJ : Aside (AbidesFrom W.heap.size J) := hJ
  have HJ0 : Aside (J [] W) := h0
  unfold maxLen at hcm
  clear hR hY hJ h0
  gi_wp2
  gi_loopw [4] (fun v wr => ∃ (pre : List (Piece w B)) (off' n' c' : Nat) (rest : List (Int × Int)), v = .slice (some ⟨b, off', none⟩) n' c' ∧ pre.length + n' ≤ 40 ∧ n' ≤ c' ∧ c' ≤ 9223372036854775807 ∧ Aside (Rd w (some ⟨b, off', none⟩) n' rest) ∧ Aside (pre.map Piece.rows ++ M.cut level rest = M.cut level l) ∧ Aside (J pre wr) ∧ KeepBut B m W wr)
    (fun v _ => lenV v)
  case atStart => exact ⟨[], off, n, cap, l, rfl, by simpa using h40, hcap, hcm, HR, by simp [Aside], HJ0, KeepBut.refl _ _ _⟩
  case round =>
    obtain ⟨pre, off', n', c', rest, rfl, hlen, hc1, hc2, HR', HE, HJ', hkb⟩ := hrel
    have hq' : wr.cell? ⟨q, 0, none⟩ = some (.int .i64 level) := (hkb.cell (p := ⟨q, 0, none⟩) hqB hqm).trans hq
    by_cases hn0 : n' = 0
    · subst hn0
      have hrest : rest = [] := List.eq_nil_of_length_eq_zero HR'.out.1
      subst hrest
      gi_wp2
      go_end0
      exact ⟨⟨_, rfl⟩, .inl ⟨pre, by have h := HE.out; rw [M.cut_nil, List.append_nil] at h; exact h, HJ'.out⟩⟩
    · have hbel : Below B w wr := hW.trans hkb.1
      have HRr : Aside (Rd wr (some ⟨b, off', none⟩) n' rest) := HR'.out.keep hbB hbel
      have hF := first_any (some ⟨b, off', none⟩) n' c' rest level wr HRr.out (by omega)
      have hne : rest ≠ [] := fun e => hn0 (by rw [← HR'.out.1, e]; rfl)
      obtain ⟨k, hk⟩ : ∃ k, k = M.len level rest := ⟨_, rfl⟩
      have hp := M.len_pos level rest hne
      rw [← hk, HR'.out.1] at hp
      obtain ⟨hk0, hk1⟩ := hp
      rw [← hk] at hF
      have HF : Aside (Calls Tryz.prog 125 #[.slice (some ⟨b, off', none⟩) n' c', .int .i64 level] wr fun e w' => e = .returned (.int .i64 k) ∧ Below wr.heap.size wr w') := hF
      have HK : Aside (k = M.len level rest) := hk
      clear hF hk
      gi_wp2_with (refine ⟨trivial, ?_⟩; gi_at_call 125; refine (callsIn_wide.2 HF.out).mono ?_; rintro e W1 ⟨rfl, hb1⟩)
      have hszr : W.heap.size ≤ wr.heap.size := hkb.1.size
      have hJ1 : J pre W1 := HJ.out pre wr W1 none HJ'.out (grown_none hb1) (fun r e => by cases e)
      have hkb1 : KeepBut B m W W1 := hkb.trans (keep_below hb1 (by omega) (by omega))
      obtain ⟨x, hx1, hx2⟩ : ∃ x : Piece w B, Piece.val x = .slice (some ⟨b, off', none⟩) k c' ∧ x.rows = rest.take k :=
        ⟨⟨((some ⟨b, off', none⟩, k, c'), rest.take k), ⟨b, off', rfl, hbB⟩, ⟨HR'.out.take k hk1, by show k ≤ c'; omega, by show c' ≤ maxLen; unfold maxLen; omega, fun h => by simp at h⟩, by show k ≤ 40; omega⟩, rfl, rfl⟩
      obtain ⟨fn, tmps, assign, body, hy, hRd⟩ := HY.out pre x W1 hJ1 (by omega)
      rw [hx1] at hy
      have HRd : Aside (RoundIn Fence.wide (n0 - 1) Tryz.prog lp fn tmps assign body W1 fun e W' => (e = .returned (.bool true) ∧ J (pre ++ [x]) W' ∧ KeepBut B m W1 W') ∨ (e = .returned (.bool false) ∧ Jx (pre ++ [x]) W')) := hRd
      have HX2 : Aside (x.rows = rest.take k) := hx2
      clear hRd hx1 hx2 hJ1 hb1 HF hq'
      rw [hy]
      gi_wp2
      refine HRd.out.mono ?_
      rintro e W3 (⟨rfl, hJ3, hk3⟩ | ⟨rfl, hJx3⟩)
      · have HJ3 : Aside (J (pre ++ [x]) W3) := hJ3
        have hkb3 := hkb1.trans hk3
        clear hJ3 hk3 hy
        have E : Aside ((pre ++ [x]).map Piece.rows ++ M.cut level (rest.drop k) = M.cut level l) := by
          unfold Aside
          rw [← HE.out, M.cut_step level rest hne, ← HK.out]
          simp [HX2.out]
        have hR4 : Aside (Rd w (some ⟨b, off' + k * 2, none⟩) (n' - k) (rest.drop k)) := HR'.out.drop k
        have hR5 : Aside (c' ≤ k → Rd w (some ⟨b, off', none⟩) (n' - k) (rest.drop k)) := fun h => Rd.zero (by omega) hR4.out.1
        gi_wp2
        all_goals go_roundw
        all_goals first
          | (show lenV _ < lenV _; simp [lenV]; omega)
          | (by_cases hck : c' = k
             · exact ⟨pre ++ [x], off', n' - k, c' - k, rest.drop k, by rw [if_pos hck], by simp; omega, by omega, by omega, hR5.out (by omega), E, HJ3, hkb3⟩
             · exact ⟨pre ++ [x], off' + k * 2, n' - k, c' - k, rest.drop k, by rw [if_neg hck], by simp; omega, by omega, by omega, hR4, E, HJ3, hkb3⟩)
      · gi_wp2
        refine bodyPost_ret (results_none rfl _ _ _) rfl ?_
        exact ⟨⟨_, rfl⟩, .inr ⟨pre ++ [x], trivial, hJx3⟩⟩
theorem chunks_any (a : Option Addr) (n cap : Nat) (level : Int) (w : World) :
    Calls Tryz.prog 93 #[.slice a n cap, .int .i64 level] w fun e w' => e = .returned (.func (.func 124) #[] #[.pointer (some ⟨w.heap.size, 0, none⟩), .pointer (some ⟨w.heap.size + 1, 0, none⟩)]) ∧ w' = (w.alloc (.cells #[.slice a n cap] 47)).alloc (.cells #[.int .i64 level] 3) := by
  go_enter Tryz.func93, Tryz.ntmps93
  go_wp2
  go_ret
  exact ⟨rfl, rfl⟩
theorem chunks_stops (n0 p q b off n cap B m : Nat) (l : List (Int × Int)) (level : Int) (w w0 : World) (hn : 1 ≤ n0) (h40 : n ≤ 40) (hcap : n ≤ cap) (hcm : cap ≤ maxLen) (hbB : b < B) (hw0 : Below B w w0)
    (hR : Rd w (some ⟨b, off, none⟩) n l) (hp : w0.cell? ⟨p, 0, none⟩ = some (.slice (some ⟨b, off, none⟩) n cap)) (hq : w0.cell? ⟨q, 0, none⟩ = some (.int .i64 level)) (hpm : p < m) (hBm : B ≤ m) (hqB : q ≠ B) (hqm : q < m) (hmW : m ≤ w0.heap.size) :
    SeqStopsK Fence.wide n0 Tryz.prog 124 #[.pointer (some ⟨p, 0, none⟩), .pointer (some ⟨q, 0, none⟩)] (fun x : Piece w B => #[Piece.val x]) (KeepBut B m) (fun xs => xs.map Piece.rows = M.cut level l) (fun _ => True) 40 w0 := fun lp J Jx W hW hJ _ hY h0 =>
  chunks1_in n0 lp p q b off n cap B m l level w hn h40 hcap hcm hbB J Jx W (hw0.trans (hW.mono (by omega))) hY hR ((hW.cell (p := ⟨p, 0, none⟩) (by show p < _; omega)).trans hp) ((hW.cell (p := ⟨q, 0, none⟩) (by show q < _; omega)).trans hq) hBm hqB hqm (by have := hW.size; omega) h0 hJ
attribute [local go_sem] Oper.semAt_some
theorem infoRows : (Tryz.prog.info? 47).map (fun i => (i.zero, i.size, i.bytes)) = some (some (.slice none 0 0), 1, 24) := by kernel_rfl
theorem Own.mono {w : World} {base base' : Nat} {v : Value} {l : List (Int × Int)} (h : Own w base v l) (hb : base' ≤ base) : Own w base' v l := by
  obtain ⟨h1, h2⟩ := h
  refine ⟨h1, ?_⟩
  rcases h2 with h2 | ⟨g, cap, cur, hv, hg, r⟩
  · exact Or.inl h2
  · exact Or.inr ⟨g, cap, cur, hv, Nat.le_trans hb hg, r⟩
theorem ownsRow_mono {w : World} {base base' : Nat} {e : TypeId} {size : Nat} {v : Value} {n : Nat} {xs : List Value} (h : w.ownsRow base e size v n xs) (hb : base' ≤ base) : w.ownsRow base' e size v n xs := by
  obtain ⟨h1, h2⟩ := h
  refine ⟨h1, ?_⟩
  rcases h2 with h2 | ⟨g, cap, cur, hv, hg, r⟩
  · exact Or.inl h2
  · exact Or.inr ⟨g, cap, cur, hv, Nat.le_trans hb hg, r⟩
def OwnLL (W : World) (m : Nat) (v : Value) (LL : List (List (Int × Int))) : Prop :=
  ∃ vals, W.ownsRow m 47 1 v LL.length vals ∧ ∀ i u, vals[i]? = some u → Own W m u (LL.getD i [])
theorem OwnLL.nil (W : World) (m : Nat) : OwnLL W m (.slice none 0 0) [] := ⟨[], World.ownsRow_nil _ _ _ _, fun i u h => by simp at h⟩
theorem ownsRow_other {W W' : World} {base : Nat} {e : TypeId} {size : Nat} {v : Value} {n : Nat} {xs : List Value} (h : W.ownsRow base e size v n xs) {row : Option Nat} (hg : W.grownBy W' row)
    (hrow : ∀ r, row = some r → ∀ cur, W.heap[r]? ≠ some (.cells cur e (0, 0))) : W'.ownsRow base e size v n xs := by
  refine h.kept hg ?_
  rcases h.2 with ⟨rfl, _⟩ | ⟨g, cap, cur, rfl, _, hgb, _⟩
  · exact .inl rfl
  · exact .inr fun e' => hrow g (by simpa [Value.ownBlock] using e'.symm) cur hgb
theorem OwnLL.kept {W W' : World} {m : Nat} {v : Value} {LL : List (List (Int × Int))} (h : OwnLL W m v LL) {row : Option Nat} (hg : W.grownBy W' row)
    (hrow : ∀ r, row = some r → ∀ cur, W.heap[r]? ≠ some (.cells cur 47 (0, 0)) ∧ W.heap[r]? ≠ some (.cells cur 56 (0, 0))) : OwnLL W' m v LL := by
  obtain ⟨vals, h1, h2⟩ := h
  exact ⟨vals, ownsRow_other h1 hg fun r e cur => (hrow r e cur).1, fun i u hu => ownsRow_other (h2 i u hu) hg fun r e cur => (hrow r e cur).2⟩
theorem OwnLL.mono {w : World} {base base' : Nat} {v : Value} {LL : List (List (Int × Int))} (h : OwnLL w base v LL) (hb : base' ≤ base) : OwnLL w base' v LL := by
  obtain ⟨vals, h1, h2⟩ := h
  exact ⟨vals, ownsRow_mono h1 hb, fun i u hu => (h2 i u hu).mono hb⟩
theorem OwnLL.append {W W1 : World} {m : Nat} {v v' u : Value} {LL : List (List (Int × Int))} {l : List (Int × Int)} {vals : List Value} {tmp : Obj} (h1 : W.ownsRow m 47 1 v LL.length vals) (h2 : ∀ i u, vals[i]? = some u → Own W m u (LL.getD i []))
    (hu : Own W m u l) (h3 : W1.ownsRow m 47 1 v' (LL.length + 1) (vals ++ [u])) (hg : (W.alloc tmp).grownBy W1 v.ownBlock) : OwnLL W1 m v' (LL ++ [l]) := by
  have hvl : vals.length = LL.length := by have := h1.1; omega
  have hrow : ∀ r, v.ownBlock = some r → ∀ cur, (W.alloc tmp).heap[r]? ≠ some (.cells cur 56 (0, 0)) := by
    intro r e cur he
    rcases (h1.alloc tmp).2 with ⟨rfl, _⟩ | ⟨g, cap, cur', rfl, _, hgb, _⟩
    · simp [Value.ownBlock] at e
    · obtain rfl : g = r := by simpa [Value.ownBlock] using e
      rw [hgb] at he
      simp at he
  refine ⟨vals ++ [u], by simpa using h3, fun i x hx => ?_⟩
  by_cases hi : i < LL.length
  · rw [List.getElem?_append_left (by omega)] at hx
    have e : (LL ++ [l]).getD i [] = LL.getD i [] := by simp [List.getD, List.getElem?_append_left hi]
    rw [e]
    exact ownsRow_other ((h2 i x hx).alloc tmp) hg hrow
  · have hi2 : i = LL.length := by
      have := (List.getElem?_eq_some_iff.1 hx).1
      simp at this; omega
    subst hi2
    have e : (LL ++ [l]).getD LL.length [] = l := by simp [List.getD]
    rw [e]
    rw [List.getElem?_append_right (by omega)] at hx
    simp [hvl] at hx
    subst hx
    exact ownsRow_other (World.ownsRow.alloc hu tmp) hg hrow
theorem cut_end {W W2 W3 : World} {B m : Nat} {v v' u : Value} {LL : List (List (Int × Int))} {xr : List (Int × Int)} {vals : List Value} {tmp : Obj} (hWsz : m ≤ W.heap.size) (hBm : B < m) (hv2 : Boxed W2 B 59 v) (hb : Below W.heap.size W W2)
    (hrow : W2.ownsRow m 47 1 v LL.length vals) (hel : ∀ i u, vals[i]? = some u → Own W2 m u (LL.getD i [])) (hu : Own W2 m u xr)
    (hown' : W3.ownsRow m 47 1 v' (LL.length + 1) (vals ++ [u])) (hgrow : (W2.alloc tmp).grownBy W3 v.ownBlock) :
    Boxed W3 B 59 v ∧ (Boxed (W3.setCell ⟨B, 0, none⟩ v') B 59 v' ∧ OwnLL (W3.setCell ⟨B, 0, none⟩ v') m v' (LL ++ [xr])) ∧ KeepBut B m W (W3.setCell ⟨B, 0, none⟩ v') ∧ KeepsFrom m W (W3.setCell ⟨B, 0, none⟩ v') := by
  obtain ⟨k1, k2, k3, k4, k5⟩ := hv2.appended (n₀ := B) (by decide) (ownsRow_mono hrow (by omega)) (by have := hb.size; omega) (Nat.le_refl _) (ownsRow_mono hown' (by omega)) hgrow
  have hLL : OwnLL W3 m v' (LL ++ [xr]) := OwnLL.append hrow hel hu hown' hgrow
  refine ⟨k1, ⟨k2, hLL.kept (grownBy_setCell' W3 B v') fun r e cur => ?_⟩, ⟨(hb.mono (by omega)).trans k5, fun k h1 h2 => ?_⟩, ?_⟩
  · cases e
    have hk1 : W3.heap[B]? = some (.cells #[v] 59 (0, 0)) := k1
    rw [hk1]
    exact ⟨by simp, by simp⟩
  · rw [Below.heap_setCell _ _ _ k (by show k ≠ B; omega), hgrow.block k (by have := hb.size; simp; omega) (fun e => ?_), Below.heap_alloc _ _ _ (by have := hb.size; omega), hb.block k (by omega)]
    have := (World.ownsRow.lt hrow k e.symm).1
    omega
  · exact KeepsFrom.trans ⟨hb.size, fun k o _ hk ho => (hb.block k (Array.getElem?_eq_some_iff.1 hk).1).trans hk⟩ (k4.from m)
theorem stepIn_append_own {F : Fence} {n : Nat} {P : Program} {w : World} {ops : Array Oper} {o : Oper} {a : Act} {K : Act → World → Prop} {Q : Exit → Act → World → Prop} {E : Prop}
    (hg : o.guard = none) (s x : Operand) (t : TypeId) (hop : o.op = Op.call { callee := Callee.builtin Builtin.append, args := #[s, x], argTypes := #[t, t] })
    (base : Nat) (e : TypeId) (i : TypeInfo) (z : Value) (size bytes : Nat) (h1 : P.underlying t = some (.slice e)) (h2 : P.info? e = some i) (h3 : i.zero = some z) (h4 : i.size = size) (h5 : i.bytes = bytes) (h6 : z.cells.size = size) (h7 : 0 < size)
    (v : Value) (k : Nat) (xs : List Value) (hs : a.eval s = v) (hown : w.ownsRow base e size v k xs) (ad : Addr) (m c : Nat) (news : List Value) (hx : a.eval x = .slice (some ad) m c) (hn : news.length = m * size)
    (hc : ∀ j u, news[j]? = some u → w.cell? (ad.add j) = some u) (h1c : ∀ u ∈ news, u.oneCell' = true) (b1 : k + m ≤ maxLen) (b2 : (k + m) * bytes ≤ 140737488355328) (b3 : base ≤ w.heap.size)
    (hK : ∀ v' w', w'.ownsRow base e size v' (k + m) (xs ++ news) → w.grownBy w' v.ownBlock → K (a.put o.dst v') w') :
    if Region.wanted o (yielded ops a.tmps) = true then Oper.wpIn F n P o a w K Q else E := by
  have hw : Region.wanted o (yielded ops a.tmps) = true := by simp [Region.wanted, hg]
  rw [if_pos hw]
  obtain ⟨v', w', hrun, r1, r2, r3⟩ := run_append_own (P := P) w base t o.type e i z size bytes h1 h2 h3 h4 h5 h6 h7 v k xs hown ad m c news hn hc h1c b1 b2 b3
  unfold Oper.wpIn
  refine ⟨?_, ?_⟩
  · simp [Oper.about, hop, resolve, Target.leads, Sem.run_pure]
  · rw [Oper.semAt_plain F _ _ (by rw [hop]; intro c hc'; cases hc')]
    unfold execOp
    simp only [hop, resolve, invoke, builtin, Sem.run_bind, Sem.run_pure, Result.andThen_ok, List.map_toArray, List.map_cons, List.map_nil, hs, hx, hrun]
    exact hK v' w' r1 r2
theorem keepBut_b {w : World} {B m : Nat} (hB : B ≤ w.heap.size) (hm : m ≤ w.heap.size) (W : World) (l : Nat) (o o' : Obj) (hl : w.heap.size ≤ l) (h : W.heap[l]? = some o) (h1 : o.isCells = false) (h2 : o.isWalk = false) : KeepBut B m W (W.putObj l o') :=
  ⟨belowK_b hB W l o o' hl h h1 h2, fun k _ hk => World.putObj_heap_other (by omega)⟩
set_option maxRecDepth 100000 in
set_option maxHeartbeats 8000000 in
theorem cut_some (b off n cap : Nat) (l : List (Int × Int)) (level : Int) (w : World) (h : Rd w (some ⟨b, off, none⟩) n l) (hcap : n ≤ cap) (hcm : cap ≤ maxLen) (h0 : M.chk l = 0) (hl0 : 0 ≤ level) (hl1 : level ≤ 9) (hB : b < w.heap.size) :
    Calls Tryz.prog 49 #[.slice (some ⟨b, off, none⟩) n cap, .int .i64 level] w fun e w' => ∃ v, e = .returned (.tuple #[v, .int .i64 0]) ∧ OwnLL w' w.heap.size v (M.cut level l) ∧ Below w.heap.size w w' := by
  have h40 : n ≤ 40 := by rw [← h.1]; exact ((M.chk_zero l).1 h0).1
  have H := check_any (some ⟨b, off, none⟩) n cap l w h (by omega)
  rw [h0] at H
  have HH : Aside (Calls Tryz.prog 47 #[.slice (some ⟨b, off, none⟩) n cap] w fun e w' => e = .returned (.int .i64 0) ∧ Below w.heap.size w w') := H
  have HR : Aside (Rd w (some ⟨b, off, none⟩) n l) := h
  clear H h h0
  obtain ⟨i0, hi, hz0, hz1, hz2⟩ := info_parts infoRows
  refine (callsIn_wide (n := 9)).1 ?_
  refine callsIn_of_wp_marks Tryz.func49 rfl trivial ?_ rfl
  simp only [Tryz.ntmps49, List.size_toArray, List.length_cons, List.length_nil, Nat.reduceAdd, Nat.reduceSub, Array.replicate_succ, Array.replicate_zero, List.push_toArray, List.append_toArray, List.nil_append, List.cons_append]
  gi_wp2_with (first | (refine ⟨trivial, ?_⟩; gi_at_call 47; refine (callsIn_wide.2 HH.out).mono ?_; rintro e w1 ⟨rfl, hb1⟩) | (refine ⟨trivial, ?_⟩; gi_at_call 92; refine (callsIn_wide.2 (level_yes level _ hl0 hl1)).mono ?_; rintro e w1' ⟨rfl, rfl⟩) | (refine ⟨trivial, ?_⟩; gi_at_call 93; refine (callsIn_wide.2 (chunks_any (some ⟨b, off, none⟩) n cap level _)).mono ?_; rintro e w2 ⟨rfl, rfl⟩))
  obtain ⟨B, hBe⟩ : ∃ B, B = w1'.heap.size := ⟨_, rfl⟩
  obtain ⟨W0, hW0⟩ : ∃ W0, W0 = ((w1'.alloc (.cells #[.slice none 0 0] 59)).alloc (.cells #[.slice (some ⟨b, off, none⟩) n cap] 47)).alloc (.cells #[.int .i64 level] 3) := ⟨_, rfl⟩
  have hsz : W0.heap.size = B + 3 := by rw [hW0, hBe]; simp
  have hw0 : Below B w1' W0 := by rw [hW0, hBe]; exact (((Below.refl _ _).alloc (Nat.le_refl _) _).alloc (by simp) _).alloc (by simp; omega) _
  have hbox : Boxed W0 B 59 (.slice none 0 0) := by rw [hW0, hBe]; exact ((Boxed.new w1' _ _).alloc _).alloc _
  have hcp : W0.cell? ⟨B + 1, 0, none⟩ = some (.slice (some ⟨b, off, none⟩) n cap) := by rw [hW0, hBe]; simp [go_sem]
  have hcq : W0.cell? ⟨B + 1 + 1, 0, none⟩ = some (.int .i64 level) := by rw [hW0, hBe]; simp [go_sem]
  have hbB : b < B := by rw [hBe]; exact Nat.lt_of_lt_of_le hB hb1.size
  have HR1 := HR.out.below hb1 (Nat.le_refl _)
  have hbw : Below w.heap.size w W0 := hb1.trans (hw0.mono (by rw [hBe]; exact hb1.size))
  have hbB0 : w.heap.size ≤ B := by rw [hBe]; exact hb1.size
  rw [← hW0, ← hBe]
  clear hW0 hBe hb1 HR HH
  refine wpIn_rangeFunc_ownG rfl (by omega) (gf := 124) (lb := #[.pointer (some ⟨B + 1, 0, none⟩), .pointer (some ⟨B + 1 + 1, 0, none⟩)]) rfl trivial (enters_of Tryz.func124 (by kernel_rfl) rfl)
    (chunks_stops 8 (B + 1) (B + 1 + 1) b off n cap B (B + 3) l level w1' W0 (by omega) h40 hcap hcm hbB hw0 HR1 hcp hcq (by omega) (by omega) (by omega) (by omega) (by omega)) (fun h k => KeepBut.trans h k) (keepBut_b (by omega) (by omega)) (Below.refl _ _) (fun _ => rfl)
    (fun pre W => (∃ v, Boxed W B 59 v ∧ OwnLL W (B + 3) v (pre.map Piece.rows)) ∧ KeepBut B (B + 3) W0 W)
    (fun _ _ _ => False) ?hI (fun _ _ _ _ _ hs _ _ => hs) ⟨⟨_, hbox, OwnLL.nil _ _⟩, KeepBut.refl _ _ _⟩
    (fun x => { tmps := #[.slice (some ⟨b, off, none⟩) n cap, .int .i64 level, undef, undef, .slice none 0 0, .int .i64 0, .int .i64 0, .pointer (some ⟨B, 0, none⟩), Piece.val x, .slice (some ⟨b, off, none⟩) n cap, .int .i64 0, .int .i64 0, .bool false, undef, .int .i64 level, .bool true, .bool false, .slice (some ⟨b, off, none⟩) n cap, .int .i64 level, .func (.func 124) #[] #[.pointer (some ⟨B + 1, 0, none⟩), .pointer (some ⟨B + 1 + 1, 0, none⟩)], Piece.val x, undef, undef, undef, undef, undef, undef], defers := [] }) ?assign ?body ?done ?stop
  case hI =>
    rintro s X Y row ⟨⟨v, hv, hLL⟩, hk⟩ hg hr
    refine ⟨⟨v, hv.kept hg (fun e => ?_), hLL.kept hg fun r e cur => ⟨fun he => ?_, fun he => ?_⟩⟩, hk.trans ⟨(Below.refl _ _).grown hg (by have := hk.1.size; omega) (fun k e => by have := (hr k e).1; omega), fun k h1 h2 => hg.block k (by have := hk.1.size; omega) (fun e => by have := (hr k e.symm).1; omega)⟩⟩
    · obtain ⟨_, o, ho, hc⟩ := hr B e.symm
      rw [show X.heap[B]? = _ from hv] at ho; cases ho; cases hc
    · obtain ⟨_, o, ho, hc⟩ := hr r e
      rw [he] at ho; cases ho; cases hc
    · obtain ⟨_, o, ho, hc⟩ := hr r e
      rw [he] at ho; cases ho; cases hc
  case assign =>
    intro lp x W K hK
    gi_wp2
    exact hK
  case body =>
    rintro lp pre x W ⟨⟨v, hv, hLL⟩, hk⟩ hlt
    obtain ⟨⟨⟨⟨xa, xn, xc⟩, xr⟩, ⟨xb, xo, hxa, hxb⟩, ⟨hxR, hxl, hxm, _⟩, hx40⟩, hx⟩ : ∃ y, y = x := ⟨x, rfl⟩
    have hxa' : xa = some ⟨xb, xo, none⟩ := hxa
    subst hxa'
    have e1 : Piece.val x = .slice (some ⟨xb, xo, none⟩) xn xc := by rw [← hx]; rfl
    have e2 : x.rows = xr := by rw [← hx]; rfl
    rw [e1]
    have hxR' : Rd w1' (some ⟨xb, xo, none⟩) xn xr := hxR
    have hx40' : xn ≤ 40 := hx40
    have hxb' : xb < B := hxb
    have hRW : Aside (Rd W (some ⟨xb, xo, none⟩) xn xr) := hxR'.keep hxb' (hw0.trans hk.1)
    have hcv := hv.cell
    have hfv := hv.frozen
    gi_wp2
    have HCL : Aside (Calls Tryz.prog 94 #[.slice (some ⟨xb, xo, none⟩) xn xc] W.drew fun e W2 => ∃ ua un uc, e = .returned (.slice ua un uc) ∧ Hid (Own W2 (B + 3) (.slice ua un uc) xr ∧ OwnLL W2 (B + 3) v (pre.map Piece.rows) ∧ Boxed W2 B 59 v ∧ Below W.heap.size W W2) ∧ W2.cell? ⟨B, 0, none⟩ = some v ∧ W2.frozen? ⟨B, 0, none⟩ = false) := by
      refine (clone_some xb xo xn xc xr W.drew (by omega) (hRW.out.below (w' := W.drew) ((Below.refl _ _).drew) (Nat.le_refl _))).mono ?_
      rintro e W2 ⟨u, rfl, hu, hb⟩
      have hb' : Below W.heap.size W W2 := ((Below.refl W.heap.size W).drew).trans hb
      have hv2 : Boxed W2 B 59 v := hv.kept (grown_none hb') (by simp)
      obtain ⟨ua, uc, rfl, _⟩ := hu.rd
      have hWsz : B + 3 ≤ W.heap.size := by have := hk.1.size; omega
      exact ⟨ua, _, uc, rfl, ⟨hu.mono hWsz, hLL.kept (grown_none hb') (fun r e => by cases e), hv2, hb'⟩, hv2.cell, hv2.frozen⟩
    refine wpIn_region_any (by kernel_rfl) ?_
    refine wpAnyIn_ready (rs := [0, 1]) (by kernel_rfl) (by simp) ?_
    refine AllReadyIn.cons rfl (fun K hK => ?_) (AllReadyIn.cons rfl (fun K hK => ?_) AllReadyIn.nil)
    · go_simp
      refine hK _ _ ?_
      clear hK K
      refine wpAnyIn_ready (rs := [1]) (by kernel_rfl) (by simp) ?_
      refine AllReadyIn.cons rfl (fun K hK => ?_) AllReadyIn.nil
      go_simp
      refine hK _ _ ?_
      clear hK K
      refine wpAnyIn_ready (rs := [2]) (by kernel_rfl) (by simp) ?_
      refine AllReadyIn.cons rfl (fun K hK => ?_) AllReadyIn.nil
      go_simp
      gi_wp2_with (refine ⟨trivial, ?_⟩; gi_at_call 94; refine (CallsIn.inRound lp (callsIn_wide.2 HCL.out)).mono ?_; rintro e W2 ⟨ua, un, uc, rfl, HU, hc2, hf2⟩)
      refine wpAnyIn_ready (rs := [3]) (by kernel_rfl) (by simp) ?_
      refine AllReadyIn.cons rfl (fun K hK => ?_) AllReadyIn.nil
      go_simp
      refine hK _ _ ?_
      clear hK K
      obtain ⟨⟨vals, hrow, hel⟩, hu, hv2, hb2⟩ : OwnLL W2 (B + 3) v (pre.map Piece.rows) ∧ Own W2 (B + 3) (.slice ua un uc) xr ∧ Boxed W2 B 59 v ∧ Below W.heap.size W W2 := ⟨HU.out.2.1, HU.out.1, HU.out.2.2⟩
      refine wpAnyIn_ready (rs := [4]) (by kernel_rfl) (by simp) ?_
      refine AllReadyIn.cons rfl (fun K hK => ?_) AllReadyIn.nil
      refine stepIn_append_own rfl _ _ 59 rfl (B + 3) 47 i0 (.slice none 0 0) 1 24 Tryz.underlying59 hi hz0 hz1 hz2 rfl (by decide) v (pre.map Piece.rows).length vals rfl (hrow.alloc _) ⟨W2.heap.size, 0, none⟩ 1 1 [.slice ua un uc] rfl rfl (cell_one_new _ _ _) (by simp [Value.oneCell']) (by simp [maxLen]; omega) (by simp; omega) (by have := hb2.size; have := hk.1.size; simp; omega) ?_
      intro v' W3 hown' hgrow
      obtain ⟨g', cap', rfl⟩ := ownsRow_succ hown'
      obtain ⟨k1, k2, k3, k4⟩ := cut_end (by have := hk.1.size; omega) (by omega) hv2 hb2 hrow hel hu hown' hgrow
      have hc3 := k1.cell
      have hf3 := k1.frozen
      have HEnd : Aside (KeepsFrom W0.heap.size W (W3.setCell ⟨B, 0, none⟩ (.slice (some ⟨g', 0, none⟩) ((pre.map Piece.rows).length + 1) cap')) ∧ KeepBut B (B + 3) W (W3.setCell ⟨B, 0, none⟩ (.slice (some ⟨g', 0, none⟩) ((pre.map Piece.rows).length + 1) cap')) ∧ (∃ v, Boxed (W3.setCell ⟨B, 0, none⟩ (.slice (some ⟨g', 0, none⟩) ((pre.map Piece.rows).length + 1) cap')) B 59 v ∧ OwnLL (W3.setCell ⟨B, 0, none⟩ (.slice (some ⟨g', 0, none⟩) ((pre.map Piece.rows).length + 1) cap')) (B + 3) v ((pre ++ [x]).map Piece.rows)) ∧ KeepBut B (B + 3) W0 (W3.setCell ⟨B, 0, none⟩ (.slice (some ⟨g', 0, none⟩) ((pre.map Piece.rows).length + 1) cap'))) := by
        refine ⟨by rw [hsz]; exact k4, k3, ⟨_, k2.1, ?_⟩, hk.trans k3⟩
        have e3 : (pre ++ [x]).map Piece.rows = pre.map Piece.rows ++ [xr] := by rw [List.map_append, List.map_singleton, e2]
        rw [e3]
        exact k2.2
      generalize hLn : (pre.map Piece.rows).length + 1 = Ln at *
      clear hLn k1 k2 k3 k4 hown' hgrow hrow hel hu hv2 hb2 HU
      refine hK _ _ ?_
      clear hK K
      refine wpAnyIn_ready (rs := [5]) (by kernel_rfl) (by simp) ?_
      refine AllReadyIn.cons rfl (fun K hK => ?_) AllReadyIn.nil
      go_simp
      refine hK _ _ ?_
      clear hK K
      refine wpAnyIn_done (by kernel_rfl) ?_ _
      exact HEnd.out
    · go_simp
      refine hK _ _ ?_
      clear hK K
      refine wpAnyIn_ready (rs := [0, 2]) (by kernel_rfl) (by simp) ?_
      refine AllReadyIn.cons rfl (fun K hK => ?_) (AllReadyIn.cons rfl (fun K hK => ?_) AllReadyIn.nil)
      · go_simp
        refine hK _ _ ?_
        clear hK K
        refine wpAnyIn_ready (rs := [2]) (by kernel_rfl) (by simp) ?_
        refine AllReadyIn.cons rfl (fun K hK => ?_) AllReadyIn.nil
        go_simp
        gi_wp2_with (refine ⟨trivial, ?_⟩; gi_at_call 94; refine (CallsIn.inRound lp (callsIn_wide.2 HCL.out)).mono ?_; rintro e W2 ⟨ua, un, uc, rfl, HU, hc2, hf2⟩)
        refine wpAnyIn_ready (rs := [3]) (by kernel_rfl) (by simp) ?_
        refine AllReadyIn.cons rfl (fun K hK => ?_) AllReadyIn.nil
        go_simp
        refine hK _ _ ?_
        clear hK K
        obtain ⟨⟨vals, hrow, hel⟩, hu, hv2, hb2⟩ : OwnLL W2 (B + 3) v (pre.map Piece.rows) ∧ Own W2 (B + 3) (.slice ua un uc) xr ∧ Boxed W2 B 59 v ∧ Below W.heap.size W W2 := ⟨HU.out.2.1, HU.out.1, HU.out.2.2⟩
        refine wpAnyIn_ready (rs := [4]) (by kernel_rfl) (by simp) ?_
        refine AllReadyIn.cons rfl (fun K hK => ?_) AllReadyIn.nil
        refine stepIn_append_own rfl _ _ 59 rfl (B + 3) 47 i0 (.slice none 0 0) 1 24 Tryz.underlying59 hi hz0 hz1 hz2 rfl (by decide) v (pre.map Piece.rows).length vals rfl (hrow.alloc _) ⟨W2.heap.size, 0, none⟩ 1 1 [.slice ua un uc] rfl rfl (cell_one_new _ _ _) (by simp [Value.oneCell']) (by simp [maxLen]; omega) (by simp; omega) (by have := hb2.size; have := hk.1.size; simp; omega) ?_
        intro v' W3 hown' hgrow
        obtain ⟨g', cap', rfl⟩ := ownsRow_succ hown'
        obtain ⟨k1, k2, k3, k4⟩ := cut_end (by have := hk.1.size; omega) (by omega) hv2 hb2 hrow hel hu hown' hgrow
        have hc3 := k1.cell
        have hf3 := k1.frozen
        have HEnd : Aside (KeepsFrom W0.heap.size W (W3.setCell ⟨B, 0, none⟩ (.slice (some ⟨g', 0, none⟩) ((pre.map Piece.rows).length + 1) cap')) ∧ KeepBut B (B + 3) W (W3.setCell ⟨B, 0, none⟩ (.slice (some ⟨g', 0, none⟩) ((pre.map Piece.rows).length + 1) cap')) ∧ (∃ v, Boxed (W3.setCell ⟨B, 0, none⟩ (.slice (some ⟨g', 0, none⟩) ((pre.map Piece.rows).length + 1) cap')) B 59 v ∧ OwnLL (W3.setCell ⟨B, 0, none⟩ (.slice (some ⟨g', 0, none⟩) ((pre.map Piece.rows).length + 1) cap')) (B + 3) v ((pre ++ [x]).map Piece.rows)) ∧ KeepBut B (B + 3) W0 (W3.setCell ⟨B, 0, none⟩ (.slice (some ⟨g', 0, none⟩) ((pre.map Piece.rows).length + 1) cap'))) := by
          refine ⟨by rw [hsz]; exact k4, k3, ⟨_, k2.1, ?_⟩, hk.trans k3⟩
          have e3 : (pre ++ [x]).map Piece.rows = pre.map Piece.rows ++ [xr] := by rw [List.map_append, List.map_singleton, e2]
          rw [e3]
          exact k2.2
        generalize hLn : (pre.map Piece.rows).length + 1 = Ln at *
        clear hLn k1 k2 k3 k4 hown' hgrow hrow hel hu hv2 hb2 HU
        refine hK _ _ ?_
        clear hK K
        refine wpAnyIn_ready (rs := [5]) (by kernel_rfl) (by simp) ?_
        refine AllReadyIn.cons rfl (fun K hK => ?_) AllReadyIn.nil
        go_simp
        refine hK _ _ ?_
        clear hK K
        refine wpAnyIn_done (by kernel_rfl) ?_ _
        exact HEnd.out
      · go_simp
        gi_wp2_with (refine ⟨trivial, ?_⟩; gi_at_call 94; refine (CallsIn.inRound lp (callsIn_wide.2 HCL.out)).mono ?_; rintro e W2 ⟨ua, un, uc, rfl, HU, hc2, hf2⟩)
        refine wpAnyIn_ready (rs := [0, 3]) (by kernel_rfl) (by simp) ?_
        refine AllReadyIn.cons rfl (fun K hK => ?_) (AllReadyIn.cons rfl (fun K hK => ?_) AllReadyIn.nil)
        · go_simp
          refine hK _ _ ?_
          clear hK K
          refine wpAnyIn_ready (rs := [3]) (by kernel_rfl) (by simp) ?_
          refine AllReadyIn.cons rfl (fun K hK => ?_) AllReadyIn.nil
          go_simp
          refine hK _ _ ?_
          clear hK K
          obtain ⟨⟨vals, hrow, hel⟩, hu, hv2, hb2⟩ : OwnLL W2 (B + 3) v (pre.map Piece.rows) ∧ Own W2 (B + 3) (.slice ua un uc) xr ∧ Boxed W2 B 59 v ∧ Below W.heap.size W W2 := ⟨HU.out.2.1, HU.out.1, HU.out.2.2⟩
          refine wpAnyIn_ready (rs := [4]) (by kernel_rfl) (by simp) ?_
          refine AllReadyIn.cons rfl (fun K hK => ?_) AllReadyIn.nil
          refine stepIn_append_own rfl _ _ 59 rfl (B + 3) 47 i0 (.slice none 0 0) 1 24 Tryz.underlying59 hi hz0 hz1 hz2 rfl (by decide) v (pre.map Piece.rows).length vals rfl (hrow.alloc _) ⟨W2.heap.size, 0, none⟩ 1 1 [.slice ua un uc] rfl rfl (cell_one_new _ _ _) (by simp [Value.oneCell']) (by simp [maxLen]; omega) (by simp; omega) (by have := hb2.size; have := hk.1.size; simp; omega) ?_
          intro v' W3 hown' hgrow
          obtain ⟨g', cap', rfl⟩ := ownsRow_succ hown'
          obtain ⟨k1, k2, k3, k4⟩ := cut_end (by have := hk.1.size; omega) (by omega) hv2 hb2 hrow hel hu hown' hgrow
          have hc3 := k1.cell
          have hf3 := k1.frozen
          have HEnd : Aside (KeepsFrom W0.heap.size W (W3.setCell ⟨B, 0, none⟩ (.slice (some ⟨g', 0, none⟩) ((pre.map Piece.rows).length + 1) cap')) ∧ KeepBut B (B + 3) W (W3.setCell ⟨B, 0, none⟩ (.slice (some ⟨g', 0, none⟩) ((pre.map Piece.rows).length + 1) cap')) ∧ (∃ v, Boxed (W3.setCell ⟨B, 0, none⟩ (.slice (some ⟨g', 0, none⟩) ((pre.map Piece.rows).length + 1) cap')) B 59 v ∧ OwnLL (W3.setCell ⟨B, 0, none⟩ (.slice (some ⟨g', 0, none⟩) ((pre.map Piece.rows).length + 1) cap')) (B + 3) v ((pre ++ [x]).map Piece.rows)) ∧ KeepBut B (B + 3) W0 (W3.setCell ⟨B, 0, none⟩ (.slice (some ⟨g', 0, none⟩) ((pre.map Piece.rows).length + 1) cap'))) := by
            refine ⟨by rw [hsz]; exact k4, k3, ⟨_, k2.1, ?_⟩, hk.trans k3⟩
            have e3 : (pre ++ [x]).map Piece.rows = pre.map Piece.rows ++ [xr] := by rw [List.map_append, List.map_singleton, e2]
            rw [e3]
            exact k2.2
          generalize hLn : (pre.map Piece.rows).length + 1 = Ln at *
          clear hLn k1 k2 k3 k4 hown' hgrow hrow hel hu hv2 hb2 HU
          refine hK _ _ ?_
          clear hK K
          refine wpAnyIn_ready (rs := [5]) (by kernel_rfl) (by simp) ?_
          refine AllReadyIn.cons rfl (fun K hK => ?_) AllReadyIn.nil
          go_simp
          refine hK _ _ ?_
          clear hK K
          refine wpAnyIn_done (by kernel_rfl) ?_ _
          exact HEnd.out
        · go_simp
          refine hK _ _ ?_
          clear hK K
          have hc2' : (W2.alloc (.cells #[.slice ua un uc] 47)).cell? ⟨B, 0, none⟩ = some v := (HU.out.2.2.1.alloc _).cell
          refine wpAnyIn_ready (rs := [0]) (by kernel_rfl) (by simp) ?_
          refine AllReadyIn.cons rfl (fun K hK => ?_) AllReadyIn.nil
          go_simp
          refine hK _ _ ?_
          clear hK K
          obtain ⟨⟨vals, hrow, hel⟩, hu, hv2, hb2⟩ : OwnLL W2 (B + 3) v (pre.map Piece.rows) ∧ Own W2 (B + 3) (.slice ua un uc) xr ∧ Boxed W2 B 59 v ∧ Below W.heap.size W W2 := ⟨HU.out.2.1, HU.out.1, HU.out.2.2⟩
          refine wpAnyIn_ready (rs := [4]) (by kernel_rfl) (by simp) ?_
          refine AllReadyIn.cons rfl (fun K hK => ?_) AllReadyIn.nil
          refine stepIn_append_own rfl _ _ 59 rfl (B + 3) 47 i0 (.slice none 0 0) 1 24 Tryz.underlying59 hi hz0 hz1 hz2 rfl (by decide) v (pre.map Piece.rows).length vals rfl (hrow.alloc _) ⟨W2.heap.size, 0, none⟩ 1 1 [.slice ua un uc] rfl rfl (cell_one_new _ _ _) (by simp [Value.oneCell']) (by simp [maxLen]; omega) (by simp; omega) (by have := hb2.size; have := hk.1.size; simp; omega) ?_
          intro v' W3 hown' hgrow
          obtain ⟨g', cap', rfl⟩ := ownsRow_succ hown'
          obtain ⟨k1, k2, k3, k4⟩ := cut_end (by have := hk.1.size; omega) (by omega) hv2 hb2 hrow hel hu hown' hgrow
          have hc3 := k1.cell
          have hf3 := k1.frozen
          have HEnd : Aside (KeepsFrom W0.heap.size W (W3.setCell ⟨B, 0, none⟩ (.slice (some ⟨g', 0, none⟩) ((pre.map Piece.rows).length + 1) cap')) ∧ KeepBut B (B + 3) W (W3.setCell ⟨B, 0, none⟩ (.slice (some ⟨g', 0, none⟩) ((pre.map Piece.rows).length + 1) cap')) ∧ (∃ v, Boxed (W3.setCell ⟨B, 0, none⟩ (.slice (some ⟨g', 0, none⟩) ((pre.map Piece.rows).length + 1) cap')) B 59 v ∧ OwnLL (W3.setCell ⟨B, 0, none⟩ (.slice (some ⟨g', 0, none⟩) ((pre.map Piece.rows).length + 1) cap')) (B + 3) v ((pre ++ [x]).map Piece.rows)) ∧ KeepBut B (B + 3) W0 (W3.setCell ⟨B, 0, none⟩ (.slice (some ⟨g', 0, none⟩) ((pre.map Piece.rows).length + 1) cap'))) := by
            refine ⟨by rw [hsz]; exact k4, k3, ⟨_, k2.1, ?_⟩, hk.trans k3⟩
            have e3 : (pre ++ [x]).map Piece.rows = pre.map Piece.rows ++ [xr] := by rw [List.map_append, List.map_singleton, e2]
            rw [e3]
            exact k2.2
          generalize hLn : (pre.map Piece.rows).length + 1 = Ln at *
          clear hLn k1 k2 k3 k4 hown' hgrow hrow hel hu hv2 hb2 HU
          refine hK _ _ ?_
          clear hK K
          refine wpAnyIn_ready (rs := [5]) (by kernel_rfl) (by simp) ?_
          refine AllReadyIn.cons rfl (fun K hK => ?_) AllReadyIn.nil
          go_simp
          refine hK _ _ ?_
          clear hK K
          refine wpAnyIn_done (by kernel_rfl) ?_ _
          exact HEnd.out
  case done =>
    rintro D ys W hD hys ⟨⟨v, hv, hLL⟩, hk⟩ hKd
    have hcv := hv.cell
    gi_wp2
    refine ⟨by simp, .inl ⟨_, _, rfl, run_takeDeferred hKd, ?_⟩⟩
    refine ⟨.tuple #[v, .int .i64 0], by simp [results, Tryz.results49, go_sem], v, rfl, ?_, ?_⟩
    · rw [← hys]
      exact (hLL.kept (grownBy_putObj' W D _) fun r e cur => ⟨fun he => (by cases e; rw [he] at hKd; cases hKd), fun he => (by cases e; rw [he] at hKd; cases hKd)⟩).mono (by omega)
    · exact (hbw.trans (hk.1.mono (by omega))).trans (belowK_b (w := w) (Nat.le_refl _) W D _ _ (by omega) hKd rfl rfl)
  case stop =>
    rintro D c pre W _ _ h _
    exact h.elim
attribute [local go_sem] Oper.semAt_some
def Lv (w : World) (a : Option Addr) (n : Nat) (LL : List (List (Int × Int))) : Prop :=
  LL.length = n ∧ (n = 0 ∨ ∃ b off, a = some ⟨b, off, none⟩ ∧ b < w.heap.size ∧ ∀ i, i < n → ∃ a' n' c', w.cell? ⟨b, off + i, none⟩ = some (.slice a' n' c') ∧ Sl w a' n' c' (LL.getD i []))
theorem Sl.below {w w' : World} {a : Option Addr} {n cap : Nat} {l : List (Int × Int)} (h : Sl w a n cap l) (hb : Below w.heap.size w w') : Sl w' a n cap l := ⟨h.1.below hb (Nat.le_refl _), h.2⟩
theorem Sl.len {w : World} {a : Option Addr} {n cap : Nat} {l : List (Int × Int)} (h : Sl w a n cap l) : n ≤ 9223372036854775807 := by have h1 := h.2.1; have h2 := h.2.2.1; unfold maxLen at h2; omega
theorem Lv.below {w w' : World} {a : Option Addr} {n : Nat} {LL : List (List (Int × Int))} (h : Lv w a n LL) (hb : Below w.heap.size w w') : Lv w' a n LL := by
  obtain ⟨h1, h2⟩ := h
  refine ⟨h1, ?_⟩
  rcases h2 with h2 | ⟨b, off, ha, hlt, hc⟩
  · exact Or.inl h2
  · refine Or.inr ⟨b, off, ha, Nat.lt_of_lt_of_le hlt hb.size, fun i hi => ?_⟩
    obtain ⟨a', n', c', h3, h4⟩ := hc i hi
    exact ⟨a', n', c', (hb.cell (p := ⟨b, off + i, none⟩) hlt).trans h3, h4.below hb⟩
theorem OwnLL.lv {w : World} {m : Nat} {v : Value} {LL : List (List (Int × Int))} (h : OwnLL w m v LL) : ∃ a n cap, v = .slice a n cap ∧ Lv w a n LL ∧ n ≤ cap ∧ cap ≤ maxLen ∧ (a = none → n = 0 ∧ cap = 0) := by
  obtain ⟨vals, h1, h2⟩ := h
  have h0 := h1
  obtain ⟨h1, h3⟩ := h1
  rcases h3 with ⟨rfl, hn⟩ | ⟨g, cap, cur, rfl, hb, hh, hc, hm, hs, hx⟩
  · exact ⟨none, 0, 0, rfl, ⟨hn, Or.inl rfl⟩, Nat.le_refl _, by simp [maxLen], fun _ => ⟨rfl, rfl⟩⟩
  · refine ⟨_, _, cap, rfl, ⟨rfl, Or.inr ⟨g, 0, rfl, (Array.getElem?_eq_some_iff.1 hh).1, fun i hi => ?_⟩⟩, hc, hm, fun h => by simp at h⟩
    have hil : i < vals.length := by omega
    obtain ⟨u, hu⟩ : ∃ u, vals[i]? = some u := ⟨_, List.getElem?_eq_getElem hil⟩
    obtain ⟨a', c', rfl, r1, r2, r3, r4⟩ := (h2 i u hu).rd
    exact ⟨a', _, c', by rw [World.ownsRow.cellAt h0 (0 + i) (by omega), Nat.zero_add]; exact hu, r1, r2, r3, r4⟩
end Go.Proofs.YtcgpgflnihjpiagGreat
namespace Go.Proofs.YtcgpgflnihjpiagGreat
open Go.RowKit
namespace M
theorem cut_at {level : Int} {l : List (Int × Int)} {fr k : Nat} (hfk : fr ≤ k) (hk : k < l.length) (A : lenFrom level (k - fr) (l.drop k) = len level (l.drop fr)) (x y : Int) (e : l.getD k (0, 0) = (x, y))
    (hs : k - fr + 1 = 6 ∨ (2 ≤ k - fr + 1 ∧ ends level x y = true) ∨ k + 1 = l.length) : cut level (l.drop fr) = (l.drop fr).take (k - fr + 1) :: cut level (l.drop (k + 1)) := by
  have hlen : len level (l.drop fr) = k - fr + 1 := by
    rw [← A]
    by_cases h : k - fr + 1 = 6 ∨ (2 ≤ k - fr + 1 ∧ ends level x y = true)
    · exact lenFrom_stop level (k - fr) l k hk x y e h
    · have hlast : k + 1 = l.length := by
        rcases hs with a | a | a
        · exact absurd (Or.inl a) h
        · exact absurd (Or.inr a) h
        · exact a
      rw [lenFrom_go level (k - fr) l k hk x y e h, lenFrom_end level _ l (k + 1) (by omega)]
  have hne : l.drop fr ≠ [] := fun h => by have := congrArg List.length h; simp at this; omega
  rw [cut_step level _ hne, hlen, List.drop_drop, show fr + (k - fr + 1) = k + 1 by omega]
theorem cut_on {level : Int} {l : List (Int × Int)} {fr k : Nat} (hfk : fr ≤ k) (hk : k < l.length) (A : lenFrom level (k - fr) (l.drop k) = len level (l.drop fr)) (x y : Int) (e : l.getD k (0, 0) = (x, y))
    (hs : ¬ (k - fr + 1 = 6 ∨ (2 ≤ k - fr + 1 ∧ ends level x y = true))) : lenFrom level (k + 1 - fr) (l.drop (k + 1)) = len level (l.drop fr) := by
  rw [← A, lenFrom_go level (k - fr) l k hk x y e hs, show k - fr + 1 = k + 1 - fr by omega]
end M
theorem Rd.mid {w : World} {b off n : Nat} {l : List (Int × Int)} (h : Rd w (some ⟨b, off, none⟩) n l) (i j : Nat) (hij : i + j ≤ n) : Rd w (some ⟨b, off + i * 2, none⟩) j ((l.drop i).take j) := (h.drop i).take j (by omega)
theorem own_empty0 (w : World) : Own (w.alloc (.cells #[] 56)) w.heap.size (.slice (some ⟨w.heap.size, 0, none⟩) 0 0) [] := World.ownsRow_made (base := w.heap.size) (e := 56) (size := 2) w #[] 0 (Nat.le_refl _) (by simp [maxLen]) rfl
theorem own_shape {w : World} {base : Nat} {v : Value} {l : List (Int × Int)} (h : Own w base v l) : ∃ a n cap, v = .slice a n cap := by
  obtain ⟨a, cap, rfl, _⟩ := h.rd
  exact ⟨a, _, cap, rfl⟩
end Go.Proofs.YtcgpgflnihjpiagGreat
