/- The law's twelve rows. -/
import Derived.Test.YtcgpgflnihjpiacCut2
import Derived.Test.YtcgpgflnihjpiacSame
namespace Go.Proofs.Ytcgpgflnihjpiac
open Go.RowKit

def manyTo (k : Nat) : List (Int × Int) := List.map (fun (i : Nat) => ((3 * (i : Int), (i : Int)) : Int × Int)) (List.range k)
theorem manyTo_succ (k : Nat) : manyTo (k + 1) = manyTo k ++ [(3 * (k : Int), (k : Int))] := by simp [manyTo, List.range_succ]
theorem manyTo_len (k : Nat) : (manyTo k).length = k := by simp [manyTo]

set_option maxHeartbeats 2000000 in
theorem many_any (w : World) : Calls Try.prog 33 #[] w fun e w' => ∃ a cap, e = .returned (.slice a 12 cap) ∧ Sl w' a 12 cap (manyTo 12) ∧ Below w.heap.size w w' := by
  go_enter Try.func33, Try.ntmps33
  go_wp2
  go_loopg [1, 2] 12 (fun g v i wr => ∃ k : Nat, k + g = 12 ∧ i = .int .i64 k ∧ Aside (Own wr w.heap.size v (manyTo k)) ∧ Below w.heap.size w wr)
  case atStart => exact ⟨0, by omega, rfl, World.ownsRow_nil _ _ _ _, Below.refl _ _⟩
  case round =>
    obtain ⟨k, hk, rfl, HO, hb⟩ := hrel
    by_cases hlt : k < 12
    · have HO1 : Aside (Own (wr.alloc (.cells #[.int .i64 (3 * (k : Int)), .int .i64 (k : Int)] 56)) w.heap.size _ (manyTo k)) := World.ownsRow.alloc HO.out _
      have HR : Aside (Rd (wr.alloc (.cells #[.int .i64 (3 * (k : Int)), .int .i64 (k : Int)] 56)) (some ⟨wr.heap.size, 0, none⟩) 1 [(3 * (k : Int), (k : Int))]) := one_rd wr _ _
      have hl : (manyTo k).length + 1 ≤ 1000000 := by rw [manyTo_len]; omega
      have HL : Aside ((manyTo k).length + 1 ≤ 1000000) := hl
      clear hl
      go_wp2_with (at_builtin; refine append_rd rfl _ _ rfl w.heap.size _ (manyTo k) rfl HO1.out (some ⟨wr.heap.size, 0, none⟩) 1 1 _ rfl HR.out (by simp) HL.out (by have := hb.size; simp; omega) ?_)
      intro v' w' ho' hb3
      have HO' : Aside (Own w' w.heap.size v' (manyTo (k + 1))) := by unfold Aside; rw [manyTo_succ]; exact ho'
      have hb4 : Below w.heap.size w w' := (hb.alloc hb.size _).trans hb3
      clear ho' hb3 HO1 HR
      go_wp2
      go_roundg (gk - 1)
      case measure => omega
      case rel => exact ⟨k + 1, by omega, by go_num, HO', hb4⟩
    · obtain rfl : k = 12 := by omega
      obtain ⟨a, cap, rfl, r1, r2, r3, r4⟩ := HO.out.rd
      rw [manyTo_len] at r1 r2 r4
      have HS : Aside (Sl wr a 12 cap (manyTo 12)) := ⟨r1, r2, r3, r4⟩
      rw [manyTo_len]
      clear r1 r2 r3 r4 HO
      go_wp2
      go_ret
      exact ⟨a, cap, rfl, HS.out, hb⟩

end Go.Proofs.Ytcgpgflnihjpiac
