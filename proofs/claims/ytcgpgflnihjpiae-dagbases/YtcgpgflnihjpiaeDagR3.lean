/- The reference's BasesOf. -/
import Derived.Test.YtcgpgflnihjpiaeDagR2
namespace Go.Proofs.Ytcgpgflnihjpiae
open Go.RowKit

set_option maxHeartbeats 16000000 in
theorem basesOf_any (a : Option Addr) (n cap : Nat) (L : List M.Com) (x y : Nat) (w : World) (h : Cm w a n L) (hz : M.dchk L = 0) (hx : x < n) (hy : y < n) :
    Calls Try.prog 8 #[.slice a n cap, .int .i64 x, .int .i64 y] w fun e w' => ∃ v, e = .returned v ∧ OwnI w' w.heap.size v (M.bases L x y) ∧ Below w.heap.size w w' := by
  have hR := M.dchk_zero hz
  have hn : n ≤ 14 := by rw [← h.1]; exact hR.1
  have HCm : Aside (Cm w a n L) := h
  have HL : Aside (L.length = n) := h.1
  have HA : Aside (∀ W c, Below w.heap.size w W → c < n → Calls Try.prog 25 #[.slice a n cap, .int .i64 ((c : Nat) : Int)] W fun e w' => e = .returned (.slice (some ⟨W.heap.size, 0, none⟩) n n) ∧ Bo w' W.heap.size (M.above L c) ∧ Below W.heap.size W w') := fun W c hW hc => aboveOf_any a n cap L c W (h.below hW (Nat.le_refl _)) hz hc
  have HBa : Aside (∀ k, k < n → M.isF L x y k (n - (k + 1)) = M.isBase L x y k) := fun k hk => by
    have e := h.1
    have := M.isF_base hR.2 (a := x) (b := y) (by omega) (by omega) k (by omega)
    rw [e] at this; exact this
  clear h hz hR
  go_enter Try.func8, Try.ntmps8
  go_wp2_with fail
  refine (HA.out w x (Below.refl _ _) hx).mono ?_
  rintro e w1 ⟨rfl, bx, hb1⟩
  go_wp2_with fail
  refine (HA.out w1 y hb1 hy).mono ?_
  rintro e w2 ⟨rfl, by', hb2⟩
  obtain ⟨X, hX⟩ : ∃ X, X = w.heap.size := ⟨_, rfl⟩
  obtain ⟨Y, hY⟩ : ∃ Y, Y = w1.heap.size := ⟨_, rfl⟩
  have hXl := bx.lt
  have hYl := by'.lt
  have HX : Aside (Bo w2 X (M.above L x)) := by rw [hX]; exact bx.below hb2 hXl
  have HY : Aside (Bo w2 Y (M.above L y)) := by rw [hY]; exact by'
  have hXB := HX.out.lt
  have hYB := HY.out.lt
  have hbw2 : Below w.heap.size w w2 := hb1.trans (hb2.mono hb1.size)
  have HXE : Aside (X = w.heap.size) := hX
  have HYE : Aside (Y = w1.heap.size) := hY
  have hs2 := hbw2.size
  clear bx by' hb2 hX hY hXl hYl
  rw [← HXE.out, ← HYE.out]
  go_wp2
  go_loopg [9, 10] n (fun g v i wr => ∃ k : Nat, k + g = n ∧ i = .int .i64 k ∧ Aside (OwnI wr w2.heap.size v (M.sel (M.isBase L x y) k)) ∧ Below w2.heap.size w2 wr)
  case atStart => exact ⟨0, by omega, rfl, OwnI.nil _ _, Below.refl _ _⟩
  case round =>
    obtain ⟨k, hk, rfl, HO, hbel⟩ := hrel
    by_cases hlt : k < n
    · have hki : (k : Int) < (n : Int) := by omega
      have cx := (HX.out.below hbel hXB).cell (i := k) (by rw [M.above_len, HL.out]; exact hlt)
      have cy := (HY.out.below hbel hYB).cell (i := k) (by rw [M.above_len, HL.out]; exact hlt)
      obtain ⟨t1, ht1⟩ : ∃ t, (M.above L x).getD k false = t := ⟨_, rfl⟩
      obtain ⟨t2, ht2⟩ : ∃ t, (M.above L y).getD k false = t := ⟨_, rfl⟩
      rw [ht1] at cx
      rw [ht2] at cy
      have HB0 : Aside (M.both L x y k = (t1 && t2)) := by unfold Aside M.both; rw [ht1, ht2]
      obtain ⟨uo, huo⟩ : ∃ uo, uo = u9 := ⟨_, rfl⟩
      have HUO : Aside (uo = u9) := huo
      have HO9 : Aside (OwnI wr w2.heap.size u9 (M.sel (M.isBase L x y) k)) := HO
      have hbel0 := hbel
      clear ht1 ht2 huo HO
      cases t1 <;> cases t2
      all_goals (
        go_wp2
        go_loopg [11, 12] (n - (k + 1)) (fun g2 vis vi ws => ∃ (s i : Nat), Aside (i = k + 1 + s) ∧ Aside (s + g2 = n - (k + 1)) ∧ vis = .bool (M.isF L x y k s) ∧ vi = .int .i64 i ∧ Aside (OwnI ws w2.heap.size u9 (M.sel (M.isBase L x y) k)) ∧ Below w2.heap.size w2 ws)
        case atStart => exact ⟨0, k + 1, rfl, by unfold Aside; omega, by rw [M.isF, HB0.out]; rfl, by go_num, HO9, hbel0⟩
        case round =>
          obtain ⟨s, i, HI, HS, rfl, rfl, HOs, hbs⟩ := hrel
          obtain ⟨q, hq⟩ : ∃ q, M.isF L x y k s = q := ⟨_, rfl⟩
          rw [hq]
          have HQ : Aside (M.isF L x y k s = q) := hq
          have h1 := HI.out
          have h2 := HS.out
          by_cases hil : i < n
          · have hii : (i : Int) < (n : Int) := by omega
            have hgk : 0 < gk := by omega
            have ei := (HX.out.below hbs hXB).cell (i := i) (by rw [M.above_len, HL.out]; exact hil)
            have ej := (HY.out.below hbs hYB).cell (i := i) (by rw [M.above_len, HL.out]; exact hil)
            obtain ⟨t3, ht3⟩ : ∃ t, (M.above L x).getD i false = t := ⟨_, rfl⟩
            obtain ⟨t4, ht4⟩ : ∃ t, (M.above L y).getD i false = t := ⟨_, rfl⟩
            rw [ht3] at ei
            rw [ht4] at ej
            obtain ⟨t5, ht5⟩ : ∃ t, (M.above L i).getD k false = t := ⟨_, rfl⟩
            have HNx : Aside (M.isF L x y k (s + 1) = (q && !((t3 && t4) && t5))) := by
              unfold Aside
              rw [M.isF, HQ.out, ← HI.out, ht5]
              unfold M.both
              rw [ht3, ht4]
            have HT5 : Aside ((M.above L i).getD k false = t5) := ht5
            have hinc : Aside (i + 1 = k + 1 + (s + 1)) := by unfold Aside; omega
            have hdec : Aside (s + 1 + (gk - 1) = n - (k + 1)) := by unfold Aside; omega
            have HCall := HA.out wr i (hbw2.trans (hbs.mono hs2)) hil
            have HCC : Hid (Calls Try.prog 25 #[.slice a n cap, .int .i64 ((i : Nat) : Int)] wr fun e w' => e = .returned (.slice (some ⟨wr.heap.size, 0, none⟩) n n) ∧ Bo w' wr.heap.size (M.above L i) ∧ Below wr.heap.size wr w') := HCall
            clear HCall ht3 ht4 ht5 hq h1 h2
            cases t3 with
            | false =>
              go_wp2
              go_roundg (gk - 1)
              case measure => omega
              case rel => exact ⟨s + 1, i + 1, hinc, hdec, by rw [HNx.out]; simp, by go_num, HOs, hbs⟩
            | true =>
              cases t4 with
              | false =>
                go_wp2
                go_roundg (gk - 1)
                case measure => omega
                case rel => exact ⟨s + 1, i + 1, hinc, hdec, by rw [HNx.out]; simp, by go_num, HOs, hbs⟩
              | true =>
                go_wp2_with fail
                refine HCC.out.mono ?_
                rintro e w5 ⟨rfl, b5, hb5⟩
                have c5 := b5.cell (i := k) (by rw [M.above_len, HL.out]; exact hlt)
                rw [HT5.out] at c5
                have HOs5 : Aside (OwnI w5 w2.heap.size u9 (M.sel (M.isBase L x y) k)) := HOs.out.below hb5
                have hbs5 : Below w2.heap.size w2 w5 := hbs.trans (hb5.mono hbs.size)
                clear b5 hb5 HCC
                cases t5 with
                | true =>
                  go_wp2
                  go_roundg (gk - 1)
                  case measure => omega
                  case rel => exact ⟨s + 1, i + 1, hinc, hdec, by rw [HNx.out]; simp, by go_num, HOs5, hbs5⟩
                | false =>
                  go_wp2
                  go_roundg (gk - 1)
                  case measure => omega
                  case rel => exact ⟨s + 1, i + 1, hinc, hdec, by rw [HNx.out]; simp, by go_num, HOs5, hbs5⟩
          · have hse : s = n - (k + 1) := by omega
            have hid : decide ((i : Int) < (n : Int)) = false := by simp; omega
            have HQ2 : Aside (M.isBase L x y k = q) := by unfold Aside; rw [← HBa.out k hlt, ← hse]; exact HQ.out
            have hsz := hbs.size
            clear hse hq h1 h2
            cases q with
            | true =>
              have HSl : Aside (M.sel (M.isBase L x y) (k + 1) = M.sel (M.isBase L x y) k ++ [(k : Int)]) := by unfold Aside; rw [M.sel, if_pos HQ2.out]
              have HO1 : Aside (OwnI (wr.alloc (.cells #[.int .i64 (k : Int)] 3)) w2.heap.size u9 (M.sel (M.isBase L x y) k)) := World.ownsRow.alloc HOs.out _
              have HLe : Aside ((M.sel (M.isBase L x y) k).length + 1 ≤ 1000000) := by have := M.sel_len (M.isBase L x y) k; unfold Aside; omega
              go_wp2_with (at_builtin; refine append_ri rfl _ _ rfl w2.heap.size _ (M.sel (M.isBase L x y) k) rfl HO1.out wr.heap.size 1 1 [(k : Int)] rfl rfl (ri_one wr _) HLe.out (by simp; omega) ?_)
              intro v' w' ho' hb4 _
              have HO' : Aside (OwnI w' w2.heap.size v' (M.sel (M.isBase L x y) (k + 1))) := by unfold Aside; rw [HSl.out]; exact ho'
              have hb5 : Below w2.heap.size w2 w' := (hbs.alloc hbs.size _).trans hb4
              clear ho' hb4 HO1
              go_wp2
              go_roundg (n - (k + 1))
              case measure => omega
              case rel => exact ⟨k + 1, by omega, by go_num, HO', hb5⟩
            | false =>
              have HO' : Aside (OwnI wr w2.heap.size u9 (M.sel (M.isBase L x y) (k + 1))) := by unfold Aside; rw [M.sel, if_neg (by rw [HQ2.out]; simp)]; exact HOs.out
              go_wp2
              go_roundg (n - (k + 1))
              case measure => omega
              case rel => exact ⟨k + 1, by omega, by go_num, HO', hbs⟩)
    · obtain rfl : k = n := by omega
      have HO' : Aside (OwnI wr w2.heap.size u9 (M.bases L x y)) := by unfold Aside M.bases; rw [HL.out]; exact HO.out
      go_wp2
      go_ret
      rw [HXE.out]
      exact ⟨_, rfl, HO'.out.mono hs2, hbw2.trans (hbel.mono hs2)⟩
end Go.Proofs.Ytcgpgflnihjpiae
