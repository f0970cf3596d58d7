/- dag.Bases. -/
import Derived.Test.YtcgpgflnihjpiadDag4
namespace Go.Proofs.Ytcgpgflnihjpiad
open Go.RowKit

/-- What Bases answers of right commits. -/
def BasesPost (L : List M.Com) (x y : Int) (n : Nat) (w : World) (e : Ending) (w' : World) : Prop :=
  Below w.heap.size w w' ∧ (((x < 0 ∨ (n : Int) ≤ x ∨ y < 0 ∨ (n : Int) ≤ y) ∧ e = .returned (.tuple #[.slice none 0 0, .int .i64 5])) ∨
    ((0 ≤ x ∧ x < (n : Int) ∧ 0 ≤ y ∧ y < (n : Int)) ∧ ∃ v, e = .returned (.tuple #[v, .int .i64 0]) ∧ OwnI w' w.heap.size v (M.bases L x.toNat y.toNat)))

theorem dbases_bad (a : Option Addr) (n cap : Nat) (L : List M.Com) (x y : Int) (w : World) (h : Cm w a n L) (hm : n ≤ 9223372036854775807) (hz : M.dchk L ≠ 0) :
    Calls Try.prog 52 #[.slice a n cap, .int .i64 x, .int .i64 y] w fun e w' => e = .returned (.tuple #[.slice none 0 0, .int .i64 (M.dchk L)]) ∧ Below w.heap.size w w' := by
  have hb : Below w.heap.size w (w.alloc (.cells #[.int .i64 x, .int .i64 y] 3)) := (Below.refl _ _).alloc (Nat.le_refl _) _
  have H := aboveAll_bad a n cap L (.slice (some ⟨w.heap.size, 0, none⟩) 2 2) (w.alloc (.cells #[.int .i64 x, .int .i64 y] 3)) (h.below hb (Nat.le_refl _)) hm hz
  obtain ⟨c, hc⟩ : ∃ c, c = M.dchk L := ⟨_, rfl⟩
  rw [← hc] at H hz ⊢
  have hne : (c != 0) = true := by simp [hz]
  have HH : Hid (Calls Try.prog 49 #[.slice a n cap, .slice (some ⟨w.heap.size, 0, none⟩) 2 2] (w.alloc (.cells #[.int .i64 x, .int .i64 y] 3)) fun e w' => e = .returned (.tuple #[.slice none 0 0, .int .i64 c]) ∧ Below (w.alloc (.cells #[.int .i64 x, .int .i64 y] 3)).heap.size (w.alloc (.cells #[.int .i64 x, .int .i64 y] 3)) w') := H
  clear H hz hc h
  go_enter Try.func52, Try.ntmps52
  go_wp2_with (go_at_call 49; refine HH.out.mono ?_; rintro e w' ⟨rfl, hb1⟩)
  go_ret2
  exact ⟨rfl, hb.trans (hb1.mono hb.size)⟩

set_option maxHeartbeats 8000000 in
theorem dbases_good (a : Option Addr) (n cap : Nat) (L : List M.Com) (x y : Int) (w : World) (h : Cm w a n L) (hz : M.dchk L = 0) :
    Calls Try.prog 52 #[.slice a n cap, .int .i64 x, .int .i64 y] w fun e w' => BasesPost L x y n w e w' := by
  have hR := M.dchk_zero hz
  have hn : n ≤ 14 := by rw [← h.1]; exact hR.1
  have hb : Below w.heap.size w (w.alloc (.cells #[.int .i64 x, .int .i64 y] 3)) := (Below.refl _ _).alloc (Nat.le_refl _) _
  have H := aboveAll_good a n cap L w.heap.size 0 2 2 [x, y] (w.alloc (.cells #[.int .i64 x, .int .i64 y] 3)) (h.below hb (Nat.le_refl _)) hz (by omega) rfl (by simp) (ri_two w x y)
  have HH : Hid (Calls Try.prog 49 #[.slice a n cap, .slice (some ⟨w.heap.size, 0, none⟩) 2 2] (w.alloc (.cells #[.int .i64 x, .int .i64 y] 3)) fun e w' => AllPost L [x, y] n (w.alloc (.cells #[.int .i64 x, .int .i64 y] 3)) e w') := H
  have HCm : Aside (Cm w a n L) := h
  have HRt : Aside (M.Right L) := hR.2
  have HL : Aside (L.length = n) := h.1
  have hmk := make_bool n (by omega)
  obtain ⟨Z, hZ⟩ : ∃ Z, Z = ((List.replicate n false).map Value.bool).toArray := ⟨_, rfl⟩
  rw [← hZ] at hmk
  have HZE : Aside (Z = ((List.replicate n false).map Value.bool).toArray) := hZ
  clear H hz h hR hZ
  go_enter Try.func52, Try.ntmps52
  go_wp2_with fail
  refine HH.out.mono ?_
  intro e w1 hp
  obtain ⟨k1, k2⟩ := hp.of hb
  clear hp HH hb
  rcases k2 with ⟨k2, rfl⟩ | ⟨k2, g0, k3, rfl, k4⟩
  · go_wp2
    go_ret2
    refine ⟨k1, Or.inl ⟨?_, rfl⟩⟩
    obtain ⟨z, hz, hr⟩ := k2
    simp at hz
    rcases hz with rfl | rfl <;> omega
  · have kx := k2 x (by simp)
    have ky := k2 y (by simp)
    clear k2
    obtain ⟨xn, rfl⟩ : ∃ xn : Nat, x = (xn : Int) := ⟨x.toNat, by omega⟩
    obtain ⟨yn, rfl⟩ : ∃ yn : Nat, y = (yn : Int) := ⟨y.toNat, by omega⟩
    have hxn : xn < n := by omega
    have hyn : yn < n := by omega
    obtain ⟨m0, hm0⟩ : ∃ m0, m0 = (List.range n).map (M.all L [(xn : Int), (yn : Int)]) := ⟨_, rfl⟩
    rw [← hm0] at k4
    have M0L : Aside (m0.length = n) := by unfold Aside; rw [hm0]; simp
    have M0C : Aside (∀ i, i < n → m0.getD i false = M.both L xn yn i) := fun i hi => by rw [hm0, ← M.all_two]; simp [List.getD, hi]
    have HB0 : Aside (Bo w1 g0 m0) := k4
    have hg1 := k4.lt
    obtain ⟨F, hF⟩ : ∃ F, F = w1.heap.size := ⟨_, rfl⟩
    have HF : Aside (F = w1.heap.size) := hF
    have BF : Aside (Bo (w1.alloc (.cells Z 4)) F (M.furF L (M.both L xn yn) 0)) := by unfold Aside Bo; rw [hF, heap_alloc_new, HZE.out, M.furF, HL.out]
    have B0' : Aside (Bo (w1.alloc (.cells Z 4)) g0 m0) := k4.below ((Below.refl w1.heap.size w1).alloc (Nat.le_refl _) _) hg1
    have hb1 : Below F w1 (w1.alloc (.cells Z 4)) := (Below.refl _ _).alloc (by omega) _
    have hgF : g0 < F := by omega
    have hwF : w.heap.size ≤ F := by rw [hF]; exact k1.size
    clear hm0 k4 hF kx ky hg1
    go_wp2
    rw [← HF.out]
    go_loopg [31] n (fun g i wr => ∃ k : Nat, k + g = n ∧ i = .int .i64 k ∧ Aside (Bo wr g0 m0) ∧ Aside (Bo wr F (M.furF L (M.both L xn yn) k)) ∧ Below F w1 wr)
    case atStart => exact ⟨0, by omega, rfl, B0', BF, hb1⟩
    case round =>
      obtain ⟨k, hk, rfl, HB, HFu, hbel⟩ := hrel
      have hbw : Below w.heap.size w wr := k1.trans (hbel.mono hwF)
      by_cases hlt : k < n
      · obtain ⟨b, off, rfl, hB, hc⟩ : ∃ b off, a = some ⟨b, off, none⟩ ∧ b < w.heap.size ∧ ∀ i, i < n → ∃ a1 n1 c1 a2 n2 c2, w.cell? ⟨b, off + i * 2, none⟩ = some (.slice a1 n1 c1) ∧ w.cell? ⟨b, off + i * 2 + 1, none⟩ = some (.slice a2 n2 c2) ∧ Rd w a1 n1 (L.getD i ([], [])).1 ∧ Ri w a2 n2 (L.getD i ([], [])).2 ∧ n1 ≤ 9223372036854775807 ∧ n2 ≤ 9223372036854775807 := by
          rcases HCm.out.cases with ⟨h0, _⟩ | ⟨b, off, e, _, _, hB, hc⟩
          · omega
          · exact ⟨b, off, e, hB, hc⟩
        obtain ⟨a1, n1, d1, a2, n2, d2, q1, q2, r1, r2, m1, m2⟩ := hc k hlt
        have c0 : wr.cell? ⟨b, off + k * 2, none⟩ = some (.slice a1 n1 d1) := (hbw.cell (p := ⟨b, off + k * 2, none⟩) hB).trans q1
        have c1 : wr.cell? ⟨b, off + k * 2 + 1, none⟩ = some (.slice a2 n2 d2) := (hbw.cell (p := ⟨b, off + k * 2 + 1, none⟩) hB).trans q2
        have cb := HB.out.cell (i := k) (by rw [M0L.out]; exact hlt)
        obtain ⟨t, ht⟩ : ∃ t, m0.getD k false = t := ⟨_, rfl⟩
        rw [ht] at cb
        have HT : Aside (M.both L xn yn k = t) := by unfold Aside; rw [← M0C.out k hlt]; exact ht
        obtain ⟨Wa, hWa⟩ : ∃ Wa, Wa = wr.alloc (.cells #[.slice a1 n1 d1, .slice a2 n2 d2] 90) := ⟨_, rfl⟩
        have hba : Below wr.heap.size wr Wa := by rw [hWa]; exact (Below.refl _ _).alloc (Nat.le_refl _) _
        have hFlt := HFu.out.lt
        have hglt := HB.out.lt
        have HBa : Aside (Bo Wa g0 m0) := HB.out.below hba hglt
        have HFa : Aside (Bo Wa F (M.furF L (M.both L xn yn) k)) := HFu.out.below hba hFlt
        have hbela : Below F w1 Wa := hbel.trans (hba.mono (by omega))
        have hRk := HRt.out k (by rw [HL.out]; exact hlt)
        have hr2 := (r2.below hbw (Nat.le_refl _)).below hba (Nat.le_refl _)
        have HM : Aside (Calls Try.prog 73 #[.slice (some ⟨F, 0, none⟩) n n, .slice a2 n2 d2] Wa fun e w' => (∃ v, e = .returned v) ∧ Bo w' F (M.mark (M.furF L (M.both L xn yn) k) (L.getD k ([], [])).2) ∧ Poked F Wa w') := by
          by_cases h0 : n2 = 0
          · subst h0
            have e : (L.getD k ([], [])).2 = [] := List.eq_nil_of_length_eq_zero r2.1
            rw [e]
            refine (dmark_none _ n n a2 d2 _).mono ?_
            rintro e w' ⟨hv, rfl⟩
            exact ⟨hv, HFa.out, Poked.refl _ _⟩
          · refine dmark_any a2 n2 d2 F n n _ _ _ hr2 (by rw [← r2.1]; exact hRk.2.1) (by rw [M.furF_len]; exact HL.out) (fun b' off' e => ?_) (fun p hp => by have := hRk.2.2 p hp; omega) HFa.out
            rcases r2.2 with h1 | ⟨b3, off3, e3, hlt3, _⟩
            · exact absurd h1 h0
            · rw [e] at e3
              cases e3
              omega
        have HWa : Hid (Wa = wr.alloc (.cells #[.slice a1 n1 d1, .slice a2 n2 d2] 90)) := hWa
        clear ht hWa hba hRk hr2 hc q1 q2 r1 r2
        cases t with
        | true =>
          go_wp2_with fail
          rw [← HWa.out]
          refine HM.out.mono ?_
          rintro e w2 ⟨⟨v, rfl⟩, hbo, hpk⟩
          have HF2 : Aside (Bo w2 F (M.furF L (M.both L xn yn) (k + 1))) := by unfold Aside; rw [M.furF, if_pos HT.out]; exact hbo
          have HB2 : Aside (Bo w2 g0 m0) := HBa.out.keep hpk (by omega)
          have hb2 := hbela.trans (hpk.below (Nat.le_refl _))
          clear hbo hpk
          go_wp2
          go_roundg (gk - 1)
          case measure => omega
          case rel => exact ⟨k + 1, by omega, by go_num, HB2, HF2, hb2⟩
        | false =>
          have HF2 : Aside (Bo Wa F (M.furF L (M.both L xn yn) (k + 1))) := by unfold Aside; rw [M.furF, if_neg (by rw [HT.out]; simp)]; exact HFa.out
          rw [HWa.out] at HF2 HBa hbela
          go_wp2
          go_roundg (gk - 1)
          case measure => omega
          case rel => exact ⟨k + 1, by omega, by go_num, HBa, HF2, hbela⟩
      · obtain rfl : k = n := by omega
        have hFlt := HFu.out.lt
        have hglt := HB.out.lt
        obtain ⟨w3, hw3⟩ : ∃ w3, w3 = wr := ⟨_, rfl⟩
        rw [← hw3] at HFu HB hFlt hglt hbel hbw
        have HW3 : Aside (w3 = wr) := hw3
        have hw3s := hbw.size
        clear hw3
        go_wp2
        rw [← HW3.out]
        go_loopg [13, 47] k (fun g v i ws => ∃ j : Nat, j + g = k ∧ i = .int .i64 j ∧ Aside (OwnI ws w3.heap.size v (M.sel (M.isBase L xn yn) j)) ∧ Below w3.heap.size w3 ws)
        case atStart => exact ⟨0, by omega, rfl, OwnI.nil _ _, Below.refl _ _⟩
        case round =>
          obtain ⟨j, hj, rfl, HO, hb3⟩ := hrel
          by_cases hjl : j < k
          · have cb := (HB.out.below hb3 hglt).cell (i := j) (by rw [M0L.out]; exact hjl)
            have cf := (HFu.out.below hb3 hFlt).cell (i := j) (by rw [M.furF_len, HL.out]; exact hjl)
            have eb : M.isBase L xn yn j = (m0.getD j false && !((M.furF L (M.both L xn yn) k).getD j false)) := by unfold M.isBase; rw [M0C.out j hjl, HL.out]
            obtain ⟨t1, ht1⟩ : ∃ t, m0.getD j false = t := ⟨_, rfl⟩
            obtain ⟨t2, ht2⟩ : ∃ t, (M.furF L (M.both L xn yn) k).getD j false = t := ⟨_, rfl⟩
            rw [ht1] at cb eb
            rw [ht2] at cf eb
            have HS : Aside (M.sel (M.isBase L xn yn) (j + 1) = if (t1 && !t2) = true then M.sel (M.isBase L xn yn) j ++ [(j : Int)] else M.sel (M.isBase L xn yn) j) := by unfold Aside; rw [M.sel, eb]
            clear ht1 ht2 eb
            have hszj := hb3.size
            by_cases hyes : t1 = true ∧ t2 = false
            · obtain ⟨rfl, rfl⟩ := hyes
              have HO1 : Aside (OwnI (wr.alloc (.cells #[.int .i64 (j : Int)] 3)) w3.heap.size u13 (M.sel (M.isBase L xn yn) j)) := World.ownsRow.alloc HO.out _
              have HLe : Aside ((M.sel (M.isBase L xn yn) j).length + 1 ≤ 1000000) := by have := M.sel_len (M.isBase L xn yn) j; unfold Aside; omega
              go_wp2_with (at_builtin; refine append_ri rfl _ _ rfl w3.heap.size _ (M.sel (M.isBase L xn yn) j) rfl HO1.out wr.heap.size 1 1 [(j : Int)] rfl rfl (ri_one wr _) HLe.out (by simp; omega) ?_)
              intro v' w' ho' hb4 _
              have HO' : Aside (OwnI w' w3.heap.size v' (M.sel (M.isBase L xn yn) (j + 1))) := by unfold Aside; rw [HS.out]; exact ho'
              have hb5 : Below w3.heap.size w3 w' := (hb3.alloc hb3.size _).trans hb4
              clear ho' hb4 HO1
              go_wp2
              go_roundg (gk - 1)
              case measure => omega
              case rel => exact ⟨j + 1, by omega, by go_num, HO', hb5⟩
            · have HO' : Aside (OwnI wr w3.heap.size u13 (M.sel (M.isBase L xn yn) (j + 1))) := by
                unfold Aside
                rw [HS.out]
                cases t1 <;> cases t2 <;> first | exact HO.out | exact absurd ⟨rfl, rfl⟩ hyes
              cases t1 with
              | true =>
                cases t2 with
                | true =>
                  go_wp2
                  go_roundg (gk - 1)
                  case measure => omega
                  case rel => exact ⟨j + 1, by omega, by go_num, HO', hb3⟩
                | false => exact absurd ⟨rfl, rfl⟩ hyes
              | false =>
                go_wp2
                go_roundg (gk - 1)
                case measure => omega
                case rel => exact ⟨j + 1, by omega, by go_num, HO', hb3⟩
          · obtain rfl : j = k := by omega
            have HO' : Aside (OwnI wr w3.heap.size u13 (M.bases L xn yn)) := by unfold Aside M.bases; rw [HL.out]; exact HO.out
            go_wp2
            go_ret2
            exact ⟨hbw.trans (hb3.mono hw3s), Or.inr ⟨⟨by omega, by omega, by omega, by omega⟩, _, rfl, HO'.out.mono hw3s⟩⟩
end Go.Proofs.Ytcgpgflnihjpiad
