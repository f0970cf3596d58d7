/- The reference's LogOf. -/
import Derived.Test.YtcgpgflnihjpiaeRRepo2
import Derived.Test.YtcgpgflnihjpiaeDagR2
namespace Go.Proofs.Ytcgpgflnihjpiae
open Go.RowKit

theorem M.log_none {C : List M.Com} {H : List M.Hd} {s : ByteArray} (h : M.hchk C H s ≠ 0) : M.logL C H s = [] := by unfold M.logL; rw [if_pos h]

set_option maxHeartbeats 4000000 in
theorem logOf_any (a : Option Addr) (n cap : Nat) (C : List M.Com) (a2 : Option Addr) (n2 cap2 : Nat) (H : List M.Hd) (s : ByteArray) (w : World) (hC : Cm w a n C) (hn : n ≤ 9223372036854775807) (hH : Hs w a2 n2 H) (hn2 : n2 ≤ 9223372036854775807) :
    Calls Try.prog 17 #[.agg #[.slice a n cap, .slice a2 n2 cap2], .string s] w fun e w' => ∃ v, e = .returned (.tuple #[v, .int .i64 (M.hchk C H s)]) ∧ OwnI w' w.heap.size v (M.logL C H s) ∧ Below w.heap.size w w' := by
  obtain ⟨p, hp⟩ : ∃ p, p = w.heap.size := ⟨_, rfl⟩
  have I1 := InBox.new w a n cap C a2 n2 cap2 H hC hH
  obtain ⟨W, hW⟩ : ∃ W, W = w.alloc (.cells #[.slice a n cap, .slice a2 n2 cap2] 40) := ⟨_, rfl⟩
  have hb : Below w.heap.size w W := by rw [hW]; exact (Below.refl _ _).alloc (Nat.le_refl _) _
  rw [← hW, ← hp] at I1
  have q0 := I1.c0
  have q1 := I1.c1
  have HK := headOf_any a n cap C a2 n2 cap2 H s W I1.cm hn I1.hs hn2
  obtain ⟨c, hc⟩ : ∃ c, c = M.hchk C H s := ⟨_, rfl⟩
  obtain ⟨x, hx⟩ : ∃ x, x = M.hat C H s := ⟨_, rfl⟩
  rw [← hc, ← hx] at HK
  have HCc : Aside (c = M.hchk C H s) := hc
  have HXx : Aside (x = M.hat C H s) := hx
  have HKK : Hid (Calls Try.prog 16 #[.agg #[.slice a n cap, .slice a2 n2 cap2], .string s] W fun e w' => e = .returned (.tuple #[.int .i64 x, .int .i64 c]) ∧ Below W.heap.size W w') := HK
  have HI : Aside (InBox W p a n cap C a2 n2 cap2 H) := I1
  have HW : Hid (W = w.alloc (.cells #[.slice a n cap, .slice a2 n2 cap2] 40)) := hW
  have HP : Aside (p = w.heap.size) := hp
  have HCl : Aside (C.length = n) := hC.1
  clear hW HK hc hx hp I1 hC hH
  go_enter Try.func17, Try.ntmps17
  go_wp2_with fail
  rw [← HW.out, ← HP.out]
  go_wp2_with fail
  refine HKK.out.mono ?_
  rintro e w1 ⟨rfl, hb1⟩
  have J1 := HI.out.below hb1
  have d0 := J1.c0
  have HJ : Aside (InBox w1 p a n cap C a2 n2 cap2 H) := J1
  have hbw1 : Below w.heap.size w w1 := hb.trans (hb1.mono hb.size)
  clear J1 q0 q1 hb1
  by_cases hz : c = 0
  · have hne : (c != 0) = false := by simp [hz]
    have hch : M.hchk C H s = 0 := by rw [← HCc.out]; exact hz
    have HZ : Aside (M.hchk C H s = 0) := hch
    have hin := M.hat_in hch
    rw [← HXx.out, HCl.out] at hin
    have hR := (M.rchk_zero (M.hchk_zero hch).1).1
    have hn14 : n ≤ 14 := by rw [← HCl.out]; exact (M.dchk_zero hR).1
    obtain ⟨xn, rfl⟩ : ∃ xn : Nat, x = (xn : Int) := ⟨x.toNat, by omega⟩
    have hA := aboveOf_any a n cap C xn w1 HJ.out.cm hR (by omega)
    obtain ⟨B, hB⟩ : ∃ B, B = M.above C xn := ⟨_, rfl⟩
    rw [← hB] at hA
    have HA : Hid (Calls Try.prog 25 #[.slice a n cap, .int .i64 xn] w1 fun e w' => e = .returned (.slice (some ⟨w1.heap.size, 0, none⟩) n n) ∧ Bo w' w1.heap.size B ∧ Below w1.heap.size w1 w') := hA
    have HBl : Aside (B.length = n) := by unfold Aside; rw [hB, M.above_len]; exact HCl.out
    have E : Aside (M.logL C H s = M.fallF B n) := by unfold Aside M.logL; rw [if_neg (by rw [hch]; simp), ← HXx.out, HCl.out, hB]; rfl
    clear hz hch hin hR hA hB
    go_wp2_with fail
    refine HA.out.mono ?_
    rintro e w2 ⟨rfl, hbo, hb2⟩
    obtain ⟨F, hF⟩ : ∃ F, F = w1.heap.size := ⟨_, rfl⟩
    rw [← hF] at hbo ⊢
    have HBo : Aside (Bo w2 F B) := hbo
    have hFl := hbo.lt
    have b2 : Below w.heap.size w w2 := hbw1.trans (hb2.mono hbw1.size)
    have hww : w.heap.size ≤ w2.heap.size := b2.size
    have hn1 : IntKind.i64.wrap ((n : Int) - 1) = (n : Int) - 1 := by rw [IntKind.wrap_i64]; omega
    clear hbo hF hb2 d0 HA
    go_wp2
    go_loopg [9, 10] n (fun g v i wr => ∃ (acc : List Int), i = .int .i64 ((g : Int) - 1) ∧ g ≤ n ∧ acc.length + g ≤ n ∧ Aside (acc ++ M.fallF B g = M.fallF B n) ∧ Aside (OwnI wr w2.heap.size v acc) ∧ Below w2.heap.size w2 wr)
    case atStart => exact ⟨[], by go_num, Nat.le_refl _, by simp, by simp [Aside], OwnI.nil _ _, Below.refl _ _⟩
    case round =>
      obtain ⟨acc, rfl, hg, hal, A, HO, hbel⟩ := hrel
      have hbw : Below w.heap.size w wr := b2.trans (hbel.mono hww)
      cases gk with
      | zero =>
        have HO' : Aside (OwnI wr w2.heap.size u9 (M.logL C H s)) := by have h1 := A.out; rw [M.fallF, List.append_nil] at h1; unfold Aside; rw [E.out, ← h1]; exact HO.out
        have h0 : decide ((0 : Int) ≤ ((0 : Nat) : Int) - 1) = false := by simp
        go_wp2
        go_ret2
        exact ⟨_, ret_two' HZ.out.symm, HO'.out.mono hww, hbw⟩
      | succ g =>
        rw [show (((g + 1 : Nat) : Int) - 1) = (g : Int) by omega]
        have h0 : decide ((0 : Int) ≤ (g : Int)) = true := by simp
        have cb := (HBo.out.below hbel hFl).cell (i := g) (by rw [HBl.out]; omega)
        have hgi : (g : Int) < (n : Int) := by omega
        obtain ⟨t, ht⟩ : ∃ t, B.getD g false = t := ⟨_, rfl⟩
        rw [ht] at cb
        have hA := A.out
        rw [M.fallF, ht] at hA
        cases t with
        | true =>
          rw [if_pos rfl] at hA
          have A2 : Aside ((acc ++ [(g : Int)]) ++ M.fallF B g = M.fallF B n) := by unfold Aside; rw [← hA]; simp
          have HOa : Aside (OwnI (wr.alloc (.cells #[.int .i64 g] 3)) w2.heap.size u9 acc) := World.ownsRow.alloc HO.out _
          have hba := hbel.alloc hbel.size (.cells #[.int .i64 (g : Int)] 3)
          have hcell := ri_one wr (g : Int)
          have HCell : Aside (∀ i, i < 1 → (wr.alloc (.cells #[.int .i64 (g : Int)] 3)).cell? ⟨wr.heap.size, 0 + i, none⟩ = some (.int .i64 (([(g : Int)] : List Int).getD i 0))) := hcell
          clear hA ht A hcell
          go_wp2_with (at_builtin; refine append_ri rfl _ _ rfl w2.heap.size _ acc rfl HOa.out wr.heap.size 1 1 [(g : Int)] rfl rfl HCell.out (by omega) (by have := hba.size; simp at this ⊢; omega) ?_)
          intro v' w' ho' hb3 _
          have HO2 : Aside (OwnI w' w2.heap.size v' (acc ++ [(g : Int)])) := ho'
          have hb4 := hba.trans hb3
          clear ho' hb3
          go_wp2
          go_roundg g
          case measure => omega
          case rel => exact ⟨acc ++ [(g : Int)], by go_num, by omega, by simp; omega, A2, HO2, hb4⟩
        | false =>
          rw [if_neg (by simp)] at hA
          have A2 : Aside (acc ++ M.fallF B g = M.fallF B n) := hA
          clear hA ht A
          go_wp2
          go_roundg g
          case measure => omega
          case rel => exact ⟨acc, by go_num, by omega, by omega, A2, HO, hbel⟩
  · have hne : (c != 0) = true := by simp [hz]
    have E : Aside (M.logL C H s = []) := M.log_none (by rw [← HCc.out]; exact hz)
    clear hz
    go_wp2
    go_ret2
    exact ⟨_, ret_two' HCc.out, by rw [E.out]; exact OwnI.nil _ _, hbw1⟩
end Go.Proofs.Ytcgpgflnihjpiae
