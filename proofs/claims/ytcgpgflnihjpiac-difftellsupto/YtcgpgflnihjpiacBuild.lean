/- tree.Build. -/
import Derived.Test.YtcgpgflnihjpiacOf
import Derived.Shelf.Abstract
namespace Go.Proofs.Ytcgpgflnihjpiac
open Go.RowKit Go.Shelf

theorem cut_cuts (w : World) : Cuts 38 [] w := by
  intro W b off ln c ll k _ hS hn h0 hk
  have hB : b < W.heap.size := by
    rcases hS.1.cases with ⟨e, _⟩ | ⟨b', off', e, _, _, hB, _⟩
    · omega
    · obtain ⟨rfl, rfl⟩ : b = b' ∧ off = off' := by simpa using e
      exact hB
  exact cut_some b off ln c ll (k : Int) W hS.1 hS.2.1 hS.2.2.1 h0 (by omega) (by omega) hB

theorem build_bad (a : Option Addr) (n cap : Nat) (l : List (Int × Int)) (w : World) (h : Rd w a n l) (hm : n ≤ 9223372036854775807) (hb : M.chk l ≠ 0) :
    Calls Try.prog 15 #[.slice a n cap] w fun e w' => e = .returned (.tuple #[.slice none 0 0, .int .i64 (M.chk l)]) ∧ Below w.heap.size w w' := by
  have H := check_any a n cap l w h hm
  obtain ⟨c, hc⟩ : ∃ c, c = M.chk l := ⟨_, rfl⟩
  rw [← hc] at H hb ⊢
  clear hc h
  have hne : (c != 0) = true := by simp [hb]
  clear hb
  have HH : Hid (Calls Try.prog 36 #[.slice a n cap] w fun e w' => e = .returned (.int .i64 c) ∧ Below w.heap.size w w') := H
  clear H
  go_enter Try.func15, Try.ntmps15
  go_wp2_with (go_at_call 36; refine HH.out.mono ?_; rintro e w' ⟨rfl, hb1⟩)
  go_ret2
  exact ⟨rfl, hb1⟩

theorem build_ok (a : Option Addr) (n cap : Nat) (l : List (Int × Int)) (w : World) (h : Sl w a n cap l) (h0 : M.chk l = 0) :
    Calls Try.prog 15 #[.slice a n cap] w fun e w' => ∃ v, e = .returned (.tuple #[v, .int .i64 0]) ∧ OwnT w' w.heap.size v (M.build l) ∧ Below w.heap.size w w' := by
  have H := check_any a n cap l w h.1 h.len
  rw [h0] at H
  have HH : Aside (Calls Try.prog 36 #[.slice a n cap] w fun e w' => e = .returned (.int .i64 0) ∧ Below w.heap.size w w') := H
  have HS : Aside (Sl w a n cap l) := h
  have HZ : Aside (M.chk l = 0) := h0
  clear H h h0
  go_enter Try.func15, Try.ntmps15
  go_wp2_with (go_at_call 36; refine HH.out.mono ?_; rintro e w1 ⟨rfl, b1⟩)
  have HO : Aside (Calls Try.prog 37 #[.slice a n cap, .func (.func 38) #[] #[]] w1 fun e w' => ∃ v, e = .returned (.tuple #[v, .int .i64 0]) ∧ OwnT w' w1.heap.size v (M.build l) ∧ Below w1.heap.size w1 w') := of_any 38 [] (enters_of Try.func38 (by kernel_rfl) rfl) a n cap l w1 (cut_cuts w1) (HS.out.below b1) HZ.out
  refine HO.out.mono ?_
  rintro e w2 ⟨v, rfl, ho, b2⟩
  have HO2 : Aside (OwnT w2 w.heap.size v (M.build l)) := ho.mono b1.size
  have hb2 : Below w.heap.size w w2 := b1.trans (b2.mono b1.size)
  clear ho b2
  go_wp2
  go_ret2
  exact ⟨_, rfl, HO2.out, hb2⟩

theorem build_none (a : Option Addr) (cap : Nat) (w : World) :
    Calls Try.prog 15 #[.slice a 0 cap] w fun e w' => e = .returned (.tuple #[.slice none 0 0, .int .i64 0]) ∧ Below w.heap.size w w' := by
  go_enter Try.func15, Try.ntmps15
  go_wp2_with (go_at_call 36; refine (check_none a cap _).mono ?_; rintro e w' ⟨rfl, rfl⟩)
  refine (of_none 38 [] a cap _).mono ?_
  rintro e w2 ⟨rfl, b2⟩
  go_wp2
  go_ret2
  exact ⟨rfl, b2⟩

theorem build_any (a : Option Addr) (n cap : Nat) (l : List (Int × Int)) (w : World) (h : Sl w a n cap l) :
    Calls Try.prog 15 #[.slice a n cap] w fun e w' => ∃ v, e = .returned (.tuple #[v, .int .i64 (M.chk l)]) ∧ OwnT w' w.heap.size v (if M.chk l = 0 then M.build l else []) ∧ Below w.heap.size w w' := by
  by_cases h0 : M.chk l = 0
  · rw [if_pos h0, h0]
    exact build_ok a n cap l w h h0
  · rw [if_neg h0]
    refine (build_bad a n cap l w h.1 h.len h0).mono ?_
    rintro e w' ⟨rfl, hb⟩
    exact ⟨_, rfl, OwnT.nil _ _, hb⟩
end Go.Proofs.Ytcgpgflnihjpiac
