/- repo.isName, by the library's own text of strings.ContainsFunc; the reference's IsName. -/
import Derived.Test.YtcgpgflnihjpiaeBase
import Derived.Test.YtcgpgflnihjpiaeRepo0
import Derived.Lib.OthersKept
import Derived.Shelf.Abstract
namespace Go.Proofs.Ytcgpgflnihjpiae
open Go.RowKit Go.PlainAid Go.Shelf

theorem notLetter_any (r : Int) (w : World) : Calls Try.prog 50 #[.int .i32 r] w fun e w' => e = .returned (.bool (decide (r < 97 ∨ 122 < r))) ∧ w' = w := by
  go_enter Try.func50, Try.ntmps50
  go_wp2
  all_goals (go_ret; exact ⟨ret_bool (by simp; try omega), rfl⟩)

set_option maxHeartbeats 2000000 in
theorem indexFunc_any (s : ByteArray) (w : World) :
    Calls Try.prog 53 #[.string s, .func (.func 50) #[] #[], .bool true] w fun e w' => ∃ r : Int, e = .returned (.int .i64 r) ∧ Hid ((M.lets s 0 = true → r = -1) ∧ (M.lets s 0 = false → 0 ≤ r)) ∧ Below w.heap.size w w' := by
  have eg : ∀ args w, (callFunc 50 args).run Try.prog w = .ok (.enter 50 args) w := enters_of Try.func50 (by kernel_rfl) rfl
  go_enter Try.func53, Try.ntmps53
  go_wp2
  go_loopg [] s.size (fun gf wx => ∃ pos : Nat, wx.heap[w.heap.size]? = some (.stringIter s pos) ∧ Below w.heap.size w wx ∧ pos + gf = s.size ∧ Aside (M.lets s pos = M.lets s 0))
  case atStart => exact ⟨0, World.iter_heap w s 0, (Below.refl _ w).alloc (Nat.le_refl _) _, by omega, rfl⟩
  case round =>
    obtain ⟨pos, hit, hbw, hfu, A⟩ := hrel
    by_cases hps : pos < s.size
    · have hnx : ∀ ty, (Instr.next (.pointer (some ⟨w.heap.size, 0, none⟩)) true ty).run Try.prog wr = _ := fun ty => Lib.run_next_any_at wr w.heap.size s pos ty hit hps
      obtain ⟨R, hR⟩ : ∃ R, (Utf8.decode s pos).1 = R := ⟨_, rfl⟩
      obtain ⟨K, hK⟩ : ∃ K, (Utf8.decode s pos).2 = K := ⟨_, rfl⟩
      rw [hR, hK] at hnx
      have hit2 := Lib.iterAt_heap wr w.heap.size s pos (pos + K) hit
      have hbw2 := Lib.below_iterAt hbw (k := w.heap.size) (Nat.le_refl _) s (pos + K)
      obtain ⟨W, hWd⟩ : ∃ W, wr.iterAt w.heap.size s (pos + K) = W := ⟨_, rfl⟩
      rw [hWd] at hnx hit2 hbw2
      have cS := notLetter_any (R : Int) W
      by_cases hl : 97 ≤ bt s pos ∧ bt s pos ≤ 122
      · have hd := M.bt_decode s pos hps (by omega)
        have e1 : (R : Int) = bt s pos := by rw [← hR, hd]; simp; omega
        have e2 : K = 1 := by rw [← hK, hd]
        have e3 : decide ((R : Int) < 97 ∨ 122 < (R : Int)) = false := decide_eq_false (by omega)
        rw [e3] at cS
        have A2 : Aside (M.lets s (pos + K) = M.lets s 0) := by unfold Aside; rw [e2, ← M.lets_good s pos hl.1 hl.2]; exact A.out
        have CS : Hid (Calls Try.prog 50 #[.int .i32 (R : Int)] W fun e w' => e = .returned (.bool false) ∧ w' = W) := cS
        have HK1 : Hid (K = 1) := e2
        clear cS hd e1 e2 e3 hR hK hWd hl A
        go_wp2_with fail
        refine CS.out.mono ?_
        rintro e w' ⟨rfl, hw'⟩
        subst hw'
        go_wp2
        go_roundg (gk - 1)
        case measure => omega
        case rel => exact ⟨pos + K, hit2, hbw2, by have := HK1.out; omega, A2⟩
      · have e3 : decide ((R : Int) < 97 ∨ 122 < (R : Int)) = true := by
          rw [decide_eq_true]
          by_cases h8 : bt s pos < 128
          · have hd := M.bt_decode s pos hps h8
            have h0 := bt_nonneg s pos
            have e1 : (R : Int) = bt s pos := by rw [← hR, hd]; simp; omega
            omega
          · have := M.far_decode s pos hps (by omega)
            rw [hR] at this; omega
        rw [e3] at cS
        have A2 : Aside (M.lets s 0 = false) := by unfold Aside; rw [← A.out]; exact M.lets_bad s pos hps (by omega)
        have CS : Hid (Calls Try.prog 50 #[.int .i32 (R : Int)] W fun e w' => e = .returned (.bool true) ∧ w' = W) := cS
        clear cS e3 hR hK hWd hl A
        go_wp2_with fail
        refine CS.out.mono ?_
        rintro e w' ⟨rfl, hw'⟩
        subst hw'
        go_wp2
        go_ret
        exact ⟨(pos : Int), rfl, ⟨fun h => by rw [A2.out] at h; simp at h, fun _ => by omega⟩, hbw2⟩
    · have hnx : ∀ ty, (Instr.next (.pointer (some ⟨w.heap.size, 0, none⟩)) true ty).run Try.prog wr = _ := fun ty => Lib.run_next_end_at wr w.heap.size s pos ty hit hps
      have A2 : Aside (M.lets s 0 = true) := by unfold Aside; rw [← A.out]; exact M.lets_end s pos (by omega)
      clear A
      go_wp2
      go_ret
      exact ⟨-1, rfl, ⟨fun _ => rfl, fun h => by rw [A2.out] at h; simp at h⟩, hbw⟩

theorem scontains_any (s : ByteArray) (w : World) :
    Calls Try.prog 49 #[.string s, .func (.func 50) #[] #[]] w fun e w' => e = .returned (.bool (!M.lets s 0)) ∧ Below w.heap.size w w' := by
  have H1 : Hid (Calls Try.prog 52 #[.string s, .func (.func 50) #[] #[]] w fun e w' => ∃ r : Int, e = .returned (.int .i64 r) ∧ Hid ((M.lets s 0 = true → r = -1) ∧ (M.lets s 0 = false → 0 ≤ r)) ∧ Below w.heap.size w w') := by
    unfold Hid
    have H2 : Hid (Calls Try.prog 53 #[.string s, .func (.func 50) #[] #[], .bool true] w fun e w' => ∃ r : Int, e = .returned (.int .i64 r) ∧ Hid ((M.lets s 0 = true → r = -1) ∧ (M.lets s 0 = false → 0 ≤ r)) ∧ Below w.heap.size w w') := indexFunc_any s w
    go_enter Try.func52, Try.ntmps52
    go_wp2_with fail
    refine H2.out.mono ?_
    rintro e w' ⟨r, rfl, hr, hb⟩
    go_wp2
    go_ret
    exact ⟨r, rfl, hr, hb⟩
  go_enter Try.func49, Try.ntmps49
  go_wp2_with fail
  refine H1.out.mono ?_
  rintro e w' ⟨r, rfl, hr, hb⟩
  go_wp2
  go_ret
  refine ⟨ret_bool ?_, hb⟩
  cases h : M.lets s 0
  · have := hr.out.2 h; simp; exact this
  · have := hr.out.1 h; subst this; simp

theorem isName_any (s : ByteArray) (w : World) (hm : s.size ≤ 9223372036854775807) : Calls Try.prog 40 #[.string s] w fun e w' => e = .returned (.bool (M.nam s)) ∧ Below w.heap.size w w' := by
  have hsz : s.toList.length = s.size := by rw [ByteArray.toList_eq]; rfl
  by_cases h0 : s.size = 0
  · rw [M.nam_none s h0]
    have e0 : s.toList = [] := List.eq_nil_of_length_eq_zero (by omega)
    clear h0 hsz
    go_enter Try.func40, Try.ntmps40
    go_wp2
    go_ret
    exact ⟨rfl, Below.refl _ _⟩
  · have e0 : s.toList.isEmpty = false := by
      rw [List.isEmpty_eq_false_iff]
      intro h
      rw [h] at hsz; simp at hsz; omega
    have e1 : ¬ s.toList = [] := by intro h; rw [h] at e0; simp at e0
    clear hsz
    by_cases h8 : 8 < s.size
    · rw [M.nam_long s h8]
      have h8' : decide (8 < (s.size : Int)) = true := by simp; omega
      go_enter Try.func40, Try.ntmps40
      go_wp2
      go_ret
      exact ⟨rfl, Below.refl _ _⟩
    · rw [M.nam_few s (by omega) (by omega)]
      have h8' : decide (8 < (s.size : Int)) = false := by simp; omega
      have H1 : Hid (Calls Try.prog 49 #[.string s, .func (.func 50) #[] #[]] w fun e w' => e = .returned (.bool (!M.lets s 0)) ∧ Below w.heap.size w w') := scontains_any s w
      go_enter Try.func40, Try.ntmps40
      go_wp2_with fail
      refine H1.out.mono ?_
      rintro e w' ⟨rfl, hb⟩
      go_wp2
      go_ret
      exact ⟨ret_bool (by simp), hb⟩
end Go.Proofs.Ytcgpgflnihjpiae
