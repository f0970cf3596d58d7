/- rows.Find. -/
import Derived.Test.YtcgpgflnihjpiacPlace
namespace Go.Proofs.Ytcgpgflnihjpiac
open Go.RowKit

set_option maxHeartbeats 1000000 in
theorem find_bad (a : Option Addr) (n cap : Nat) (l : List (Int × Int)) (key : Int) (w : World) (h : Rd w a n l) (hm : n ≤ 9223372036854775807) (hb : M.asked l key ≠ 0) :
    Calls Try.prog 18 #[.slice a n cap, .int .i64 key] w fun e w' => e = .returned (.tuple #[.int .i64 0, .int .i64 (M.asked l key)]) ∧ Below w.heap.size w w' := by
  have H := asked_any a n cap l key w h hm
  obtain ⟨c, hc⟩ : ∃ c, c = M.asked l key := ⟨_, rfl⟩
  rw [← hc] at H hb ⊢
  clear hc h
  have hne : (c != 0) = true := by simp [hb]
  clear hb
  have HH : Hid (Calls Try.prog 39 #[.slice a n cap, .int .i64 key] w fun e w' => e = .returned (.int .i64 c) ∧ Below w.heap.size w w') := H
  clear H
  go_enter Try.func18, Try.ntmps18
  go_wp2_with (go_at_call 39; refine HH.out.mono ?_; rintro e w' ⟨rfl, hb1⟩)
  go_ret2
  exact ⟨rfl, hb1⟩

set_option maxHeartbeats 1000000 in
theorem find_ok (a : Option Addr) (n cap : Nat) (l : List (Int × Int)) (key : Int) (w : World) (h : Rd w a n l) (hb : M.asked l key = 0) :
    Calls Try.prog 18 #[.slice a n cap, .int .i64 key] w fun e w' => e = .returned (.tuple #[.int .i64 (M.find key l), .int .i64 0]) ∧ Below w.heap.size w w' := by
  have hz := M.asked_zero hb
  have hz2 := (M.chk_zero l).1 hz.1
  have hn40 : n ≤ 40 := by rw [← h.1]; exact hz2.1
  have H := asked_any a n cap l key w h (by omega)
  rw [hb] at H
  have HH : Hid (Calls Try.prog 39 #[.slice a n cap, .int .i64 key] w fun e w' => e = .returned (.int .i64 0) ∧ Below w.heap.size w w') := H
  have HR : Hid (Rd w a n l) := h
  have HZ : Hid (M.chk l = 0) := hz.1
  have HOk : Hid (M.Ok l) := hz2.2
  clear H hb hz h hz2
  go_enter Try.func18, Try.ntmps18
  go_wp2_with fail
  refine HH.out.mono ?_
  rintro e w1 ⟨rfl, hb1⟩
  have R1 := HR.out.below hb1 (Nat.le_refl _)
  have HR1 : Hid (Rd w1 a n l) := R1
  clear R1
  go_wp2_with fail
  refine (place_any a n cap l key w1 HR1.out HZ.out).mono ?_
  rintro e w2 ⟨k, t, rfl, hat, hb2⟩
  have hb3 := hb1.trans (hb2.mono hb1.size)
  have R2 := HR1.out.below hb2 (Nat.le_refl _)
  cases t with
  | false =>
    have e1 : Hid (M.find key l = -1) := hat.find_no HOk.out
    clear hat R2
    go_wp2
    go_ret2
    exact ⟨ret_two e1.out.symm, hb3⟩
  | true =>
    have e1 : Hid (M.find key l = (l.getD k (0, 0)).2) := hat.find_yes HOk.out
    have hk := hat.yes.1
    clear hat
    rcases R2.cases with ⟨rfl, rfl⟩ | ⟨b, off, rfl, hn, hl, hB, hc⟩
    · simp at hk
    · have c1 := (hc k (by omega)).2
      obtain ⟨y, hy⟩ : ∃ y, y = (l.getD k (0, 0)).2 := ⟨_, rfl⟩
      rw [← hy] at c1
      have HY : Hid (y = (l.getD k (0, 0)).2) := hy
      have hki : (k : Int) < (n : Int) := by omega
      clear hy hc R2 hl hk
      go_wp2
      go_ret2
      exact ⟨ret_two (HY.out.trans e1.out.symm), hb3⟩

theorem find_any (a : Option Addr) (n cap : Nat) (l : List (Int × Int)) (key : Int) (w : World) (h : Rd w a n l) (hm : n ≤ 9223372036854775807) :
    Calls Try.prog 18 #[.slice a n cap, .int .i64 key] w fun e w' => e = .returned (.tuple #[.int .i64 (M.findV l key), .int .i64 (M.asked l key)]) ∧ Below w.heap.size w w' := by
  by_cases hb : M.asked l key = 0
  · rw [M.findV_ok hb, hb]; exact find_ok a n cap l key w h hb
  · rw [M.findV_no hb]; exact find_bad a n cap l key w h hm hb

end Go.Proofs.Ytcgpgflnihjpiac
