/- The FindOf of the reference. -/
import Derived.Test.YtcgpgflnihjpiaaFindA
import Derived.Test.YtcgpgflnihjpiaaValue
namespace Go.Proofs.Ytcgpgflnihjpiaa
open Go.RowKit

set_option maxHeartbeats 1000000 in
theorem findOf_any (a : Option Addr) (n cap : Nat) (l : List (Int × Int)) (key : Int) (w : World) (h : Rd w a n l) (hm : n ≤ 9223372036854775807) :
    Calls Try.prog 10 #[.slice a n cap, .int .i64 key] w fun e w' => e = .returned (.tuple #[.int .i64 (M.findV l key), .int .i64 (M.asked l key)]) ∧ Below w.heap.size w w' := by
  have H := error_any a n cap l w h hm
  by_cases hb : M.chk l = 0
  · rw [hb] at H
    have HH : Hid (Calls Try.prog 13 #[.slice a n cap] w fun e w' => e = .returned (.int .i64 0) ∧ Below w.heap.size w w') := H
    have hn40 : n ≤ 40 := by rw [← h.1]; exact ((M.chk_zero l).1 hb).1
    clear H
    by_cases hk : key < 0 ∨ 99 < key
    · have e1 := M.asked_range hb hk
      rw [M.findV_no (by omega), e1]
      have HK : Hid (key < 0 ∨ 99 < key) := hk
      clear hk e1 hb h
      go_enter Try.func10, Try.ntmps10
      go_wp2_with (first | (go_at_call 13; refine HH.out.mono ?_; rintro e w' ⟨rfl, hb1⟩) | (go_at_call 28; refine (isKey_no _ _ HK.out).mono ?_; rintro e w' ⟨rfl, rfl⟩))
      go_ret2
      exact ⟨rfl, hb1⟩
    · have e1 := M.asked_ok hb (key := key) (by omega) (by omega)
      rw [M.findV_ok e1, e1]
      have k1 : 0 ≤ key := by omega
      have k2 : key ≤ 99 := by omega
      have HR : Hid (Rd w a n l) := h
      obtain ⟨v, hv⟩ : ∃ v, v = M.find key l := ⟨_, rfl⟩
      rw [← hv]
      have HV : Hid (v = M.find key l) := hv
      clear hk e1 hb h hv
      go_enter Try.func10, Try.ntmps10
      go_wp2_with (first | (go_at_call 13; refine HH.out.mono ?_; rintro e w' ⟨rfl, hb1⟩) | (go_at_call 28; refine (isKey_yes _ _ k1 k2).mono ?_; rintro e w' ⟨rfl, rfl⟩) | (go_at_call 29; refine (value_any a n cap l key _ (HR.out.below hb1 (Nat.le_refl _)) hn40).mono ?_; rintro e w' ⟨rfl, rfl⟩; rw [← HV.out]))
      go_ret2
      exact ⟨rfl, hb1⟩
  · have e1 := M.asked_bad (key := key) hb
    rw [M.findV_no (by omega), e1]
    obtain ⟨c, hc⟩ : ∃ c, c = M.chk l := ⟨_, rfl⟩
    rw [← hc] at H hb ⊢
    clear hc h e1
    have hne : (c != 0) = true := by simp [hb]
    clear hb
    have HH : Hid (Calls Try.prog 13 #[.slice a n cap] w fun e w' => e = .returned (.int .i64 c) ∧ Below w.heap.size w w') := H
    clear H
    go_enter Try.func10, Try.ntmps10
    go_wp2_with (go_at_call 13; refine HH.out.mono ?_; rintro e w' ⟨rfl, hb1⟩)
    go_ret2
    exact ⟨rfl, hb1⟩
end Go.Proofs.Ytcgpgflnihjpiaa
