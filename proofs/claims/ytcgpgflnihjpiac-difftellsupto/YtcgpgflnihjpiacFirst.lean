/- chunk.firstLen and slices.Clone. -/
import Derived.Test.YtcgpgflnihjpiacSum
import Derived.Test.YtcgpgflnihjpiacMemA
namespace Go.Proofs.Ytcgpgflnihjpiac
open Go.RowKit

theorem first_none (a : Option Addr) (cap : Nat) (level : Int) (w : World) :
    Calls Try.prog 87 #[.slice a 0 cap, .int .i64 level] w fun e w' => e = .returned (.int .i64 0) ∧ w' = w := by
  go_enter Try.func87, Try.ntmps87
  go_wp2
  refine wp_loop_rounds 1 ?_
  rw [rounds_succ]
  go_wp2
  go_ret
  exact ⟨rfl, rfl⟩

theorem ret_nat {k : IntKind} {a b : Nat} (h : a = b) : Ending.returned (.int k (a : Int)) = .returned (.int k (b : Int)) := by rw [h]

set_option maxHeartbeats 4000000 in
theorem first_some (b off n cap : Nat) (l : List (Int × Int)) (level : Int) (w : World) (hn : n ≤ 40) (hl : l.length = n) (hB : b < w.heap.size)
    (hc : ∀ i, i < n → w.cell? ⟨b, off + i * 2, none⟩ = some (.int .i64 (l.getD i (0, 0)).1) ∧ w.cell? ⟨b, off + i * 2 + 1, none⟩ = some (.int .i64 (l.getD i (0, 0)).2)) :
    Calls Try.prog 87 #[.slice (some ⟨b, off, none⟩) n cap, .int .i64 level] w fun e w' => e = .returned (.int .i64 (M.len level l)) ∧ Below w.heap.size w w' := by
  have HC : Aside (∀ i, i < n → w.cell? ⟨b, off + i * 2, none⟩ = some (.int .i64 (l.getD i (0, 0)).1) ∧ w.cell? ⟨b, off + i * 2 + 1, none⟩ = some (.int .i64 (l.getD i (0, 0)).2)) := hc
  have HL : Aside (l.length = n) := hl
  clear hc hl
  go_enter Try.func87, Try.ntmps87
  go_wp2
  go_loopg [10] n (fun g i wr => ∃ k : Nat, k + g = n ∧ i = .int .i64 k ∧ Below w.heap.size w wr ∧ Aside (M.lenFrom level k (l.drop k) = M.len level l))
  case atStart => exact ⟨0, by omega, rfl, Below.refl _ _, by simp [Aside, M.len]⟩
  case round =>
    obtain ⟨k, hk, rfl, hbel, A⟩ := hrel
    have hsz := hbel.size
    by_cases hlt : k < n
    · obtain ⟨x, y, hxy⟩ : ∃ x y, l.getD k (0, 0) = (x, y) := ⟨_, _, rfl⟩
      have c0 : wr.cell? ⟨b, off + k * 2, none⟩ = some (.int .i64 x) := by rw [hbel.cell (p := ⟨b, off + k * 2, none⟩) hB, (HC.out k hlt).1, hxy]
      have c1 : wr.cell? ⟨b, off + k * 2 + 1, none⟩ = some (.int .i64 y) := by rw [hbel.cell (p := ⟨b, off + k * 2 + 1, none⟩) hB, (HC.out k hlt).2, hxy]
      have HXY : Aside (l.getD k (0, 0) = (x, y)) := hxy
      clear hxy
      by_cases h6 : k + 1 = 6
      · obtain rfl : k = 5 := by omega
        go_wp2
        go_ret
        exact ⟨ret_nat (a := 6) (A.out.symm.trans (M.lenFrom_stop level 5 l 5 (by rw [HL.out]; exact hlt) x y HXY.out (Or.inl rfl))).symm, hbel.alloc hsz _⟩
      · have h6b : ((k : Int) + 1 == 6) = false := by simp; omega
        by_cases h2 : 2 ≤ k + 1
        · have h1 : 1 ≤ k := by omega
          obtain ⟨e, he⟩ : ∃ e, e = M.ends level x y := ⟨_, rfl⟩
          have HE : Aside (e = M.ends level x y) := he
          clear he
          cases e with
          | true =>
            go_wp2_with (go_at_call 94; refine (ends_any x y level _).mono ?_; rintro e w' ⟨rfl, hb1⟩; rw [← HE.out])
            have hb2 := (hbel.alloc hsz (.cells #[.int .i64 x, .int .i64 y] 56)).trans (hb1.mono (by simp; omega))
            go_ret
            exact ⟨ret_nat (a := k + 1) (A.out.symm.trans (M.lenFrom_stop level k l k (by rw [HL.out]; exact hlt) x y HXY.out (Or.inr ⟨h2, HE.out.symm⟩))).symm, hb2⟩
          | false =>
            go_wp2_with (go_at_call 94; refine (ends_any x y level _).mono ?_; rintro e w' ⟨rfl, hb1⟩; rw [← HE.out])
            have hb2 := (hbel.alloc hsz (.cells #[.int .i64 x, .int .i64 y] 56)).trans (hb1.mono (by simp; omega))
            go_roundg (gk - 1)
            case measure => omega
            case rel => exact ⟨k + 1, by omega, by go_num, hb2, by unfold Aside; rw [← A.out, M.lenFrom_go level k l k (by rw [HL.out]; exact hlt) x y HXY.out (by rw [← HE.out]; simp; omega)]⟩
        · have hk1 : k < 1 := by omega
          have hkd : decide (1 ≤ k) = false := by simp; omega
          clear h2
          go_wp2
          go_roundg (gk - 1)
          case measure => omega
          case rel => exact ⟨k + 1, by omega, by go_num, hbel.alloc hsz _, by unfold Aside; rw [← A.out, M.lenFrom_go level k l k (by rw [HL.out]; exact hlt) x y HXY.out (by omega)]⟩
    · go_wp2
      go_ret
      exact ⟨ret_nat (a := n) (A.out.symm.trans ((M.lenFrom_end level k l k (by rw [HL.out]; omega)).trans (by omega))).symm, hbel⟩

theorem first_any (a : Option Addr) (n cap : Nat) (l : List (Int × Int)) (level : Int) (w : World) (h : Rd w a n l) (hn : n ≤ 40) :
    Calls Try.prog 87 #[.slice a n cap, .int .i64 level] w fun e w' => e = .returned (.int .i64 (M.len level l)) ∧ Below w.heap.size w w' := by
  rcases h.cases with ⟨rfl, rfl⟩ | ⟨b, off, rfl, hn0, hl, hB, hc⟩
  · refine (first_none a cap level w).mono ?_
    rintro e w' ⟨rfl, rfl⟩
    exact ⟨rfl, Below.refl _ _⟩
  · exact first_some b off n cap l level w hn hl hB hc

/-- slices.Clone of rows that are there. -/
theorem clone_some (b off n cap : Nat) (l : List (Int × Int)) (w : World) (hn : n ≤ 1000) (h : Rd w (some ⟨b, off, none⟩) n l) :
    Calls Try.prog 66 #[.slice (some ⟨b, off, none⟩) n cap] w fun e w' => ∃ v, e = .returned v ∧ Own w' w.heap.size v l ∧ Below w.heap.size w w' := by
  have hnn : ∀ W, (binOp .eql 32 (.slice (some ⟨b, off, none⟩) n cap) (.slice none 0 0)).run Try.prog W = .ok (.bool false) W := fun W => by
    have h := Lib.run_eql_slice_nil (P := Try.prog) W 32 56 (some ⟨b, off, none⟩) n cap 0 0 Try.underlying32
    simpa using h
  have HR : Hid (Rd (w.alloc (.cells #[] 56)) (some ⟨b, off, none⟩) n l) := h.below ((Below.refl _ _).alloc (Nat.le_refl _) _) (Nat.le_refl _)
  have HO : Hid (Own (w.alloc (.cells #[] 56)) w.heap.size (.slice (some ⟨w.heap.size, 0, none⟩) 0 0) []) := World.ownsRow_made (base := w.heap.size) (e := 56) (size := 2) w #[] 0 (Nat.le_refl _) (by simp [maxLen]) rfl
  clear h
  go_enter Try.func66, Try.ntmps66
  go_wp2_with (at_builtin; refine append_rd rfl _ _ rfl w.heap.size _ [] rfl HO.out (some ⟨b, off, none⟩) n cap l rfl HR.out (by simp) (by simp; omega) (by simp) ?_)
  intro v' w' ho' hb3
  have HO' : Hid (Own w' w.heap.size v' l) := ho'
  have hb4 : Below w.heap.size w w' := ((Below.refl _ _).alloc (Nat.le_refl _) _).trans hb3
  clear ho' hb3
  go_wp2
  go_ret
  exact ⟨_, rfl, HO'.out, hb4⟩
end Go.Proofs.Ytcgpgflnihjpiac
