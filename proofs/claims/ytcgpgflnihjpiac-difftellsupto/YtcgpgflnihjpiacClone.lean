/- slices.Clone of rows, whatever they are. -/
import Derived.Test.YtcgpgflnihjpiacMemA
import Derived.Lib.SliceRun
namespace Go.Proofs.Ytcgpgflnihjpiac
open Go.RowKit

/-- slices.Clone of rows that are there. -/
theorem cloned_some (ad : Addr) (n cap : Nat) (l : List (Int × Int)) (w : World) (hn : n ≤ 1000) (h : Rd w (some ad) n l) :
    Calls Try.prog 66 #[.slice (some ad) n cap] w fun e w' => ∃ v, e = .returned v ∧ Own w' w.heap.size v l ∧ Below w.heap.size w w' := by
  have hnn : ∀ W, (binOp .eql 32 (.slice (some ad) n cap) (.slice none 0 0)).run Try.prog W = .ok (.bool false) W := fun W => by
    have h := Lib.run_eql_slice_nil (P := Try.prog) W 32 56 (some ad) n cap 0 0 Try.underlying32
    simpa using h
  have HR : Hid (Rd (w.alloc (.cells #[] 56)) (some ad) n l) := h.below ((Below.refl _ _).alloc (Nat.le_refl _) _) (Nat.le_refl _)
  have HO : Hid (Own (w.alloc (.cells #[] 56)) w.heap.size (.slice (some ⟨w.heap.size, 0, none⟩) 0 0) []) := World.ownsRow_made (base := w.heap.size) (e := 56) (size := 2) w #[] 0 (Nat.le_refl _) (by simp [maxLen]) rfl
  clear h
  go_enter Try.func66, Try.ntmps66
  go_wp2_with (at_builtin; refine append_rd rfl _ _ rfl w.heap.size _ [] rfl HO.out (some ad) n cap l rfl HR.out (by simp) (by simp; omega) (by simp) ?_)
  intro v' w' ho' hb3
  have HO' : Hid (Own w' w.heap.size v' l) := ho'
  have hb4 : Below w.heap.size w w' := ((Below.refl _ _).alloc (Nat.le_refl _) _).trans hb3
  clear ho' hb3
  go_wp2
  go_ret
  exact ⟨_, rfl, HO'.out, hb4⟩

theorem cloned_nil (w : World) :
    Calls Try.prog 66 #[.slice none 0 0] w fun e w' => e = .returned (.slice none 0 0) ∧ w' = w := by
  have hnn : ∀ W, (binOp .eql 32 (.slice none 0 0) (.slice none 0 0)).run Try.prog W = .ok (.bool true) W := fun W => by
    have h := Lib.run_eql_slice_nil (P := Try.prog) W 32 56 none 0 0 0 0 Try.underlying32
    simpa using h
  go_enter Try.func66, Try.ntmps66
  go_wp2
  go_ret
  exact ⟨rfl, rfl⟩
theorem cloned_any (a : Option Addr) (n cap : Nat) (l : List (Int × Int)) (w : World) (hn : n ≤ 1000) (h : Rd w a n l) (hnil : a = none → n = 0 ∧ cap = 0) :
    Calls Try.prog 66 #[.slice a n cap] w fun e w' => ∃ v, e = .returned v ∧ Own w' w.heap.size v l ∧ Below w.heap.size w w' := by
  cases a with
  | none =>
    obtain ⟨rfl, rfl⟩ := hnil rfl
    have e : l = [] := List.eq_nil_of_length_eq_zero h.1
    subst e
    refine (cloned_nil w).mono ?_
    rintro e w' ⟨rfl, rfl⟩
    exact ⟨_, rfl, World.ownsRow_nil _ _ _ _, Below.refl _ _⟩
  | some ad => exact cloned_some ad n cap l w hn h
end Go.Proofs.Ytcgpgflnihjpiac
