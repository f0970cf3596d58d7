/- slices.Sorted(maps.Keys(m)): the keys of a map of the call's own, rising. -/
import Derived.Test.YtcgpgflnihjpiacLay
import Derived.Test.YtcgpgflnihjpiacMp
import Derived.Test.YtcgpgflnihjpiacInts
namespace Go.Proofs.Ytcgpgflnihjpiac
open Go.RowKit Go.Maps Go.Sort Go.Shelf

theorem sortsA (m : Nat) : AnyZI.SortsIn Try.prog sortedA_ren Fence.wide m :=
  ⟨fun blk off cap ss W hH hblk hsz => callsIn_wide.2 (AnyM.slices_Sort_int sortA blk off cap ss W hH hblk hsz),
   fun p cap W => callsIn_wide.2 (AnyM.slices_Sort_int_none sortA p cap W)⟩

theorem keys_call (mb : Option Nat) (W : World) : Calls Try.prog 46 #[.map mb] W fun e w' => e = .returned (.func (.func 78) #[] #[.pointer (some ⟨W.heap.size, 0, none⟩)]) ∧ w' = W.alloc (.cells #[.map mb] 68) :=
  (callsIn_wide (n := 5)).1 (AnyZI.keys_in keysA Fence.wide 5 trivial rfl mb W)

set_option maxHeartbeats 1000000 in
theorem sorted_call (b n : Nat) (f : Int → Option Value) (w : World) (h : Mp w b n f) (hn : n ≤ 1000) (m : Nat) (hd : ∀ x, (f x).isSome = true → 0 ≤ x ∧ x < (m : Int)) :
    Calls Try.prog 45 #[.func (.func 78) #[] #[.pointer (some ⟨w.heap.size, 0, none⟩)]] (w.alloc (.cells #[.map (some b)] 68)) fun e w' =>
      ∃ v, e = .returned v ∧ OwnI w' w.heap.size v (M.sel (fun k => (f (k : Int)).isSome) m) ∧ Below w.heap.size w w' := by
  obtain ⟨D, hown, hh, _⟩ := h
  have hbl := hown.lt
  have hsz := size_keys hown
  have hseq : SeqGives Fence.wide 2 Try.prog 78 #[.pointer (some ⟨w.heap.size, 0, none⟩)] encZ (fun ss => ss.Perm (intKeys D)) (Maps.size D) (w.alloc (.cells #[.map (some b)] 68)) :=
    AnyZI.keys_gives (ρ := keysA_ren) { keysA with } Fence.wide _ trivial rfl (by omega) w.heap.size b n D _ (by simp) (by simp) (hown.alloc _)
  have cS := AnyZI.sorted_in sortedA Fence.wide 5 trivial trivial trivial trivial rfl (by omega) (sortsA _) (enters_of Try.func77 (by kernel_rfl) rfl) 78 #[.pointer (some ⟨w.heap.size, 0, none⟩)] trivial (enters_of Try.func78 (by kernel_rfl) rfl) _ _ (by unfold maxLen; omega) (by omega) _ hseq
  change CallsIn _ _ Try.prog 45 _ _ _ at cS
  refine (callsIn_wide.1 cS).mono ?_
  rintro e w' ⟨v, ss, rfl, hS, hrow, hnil, hb⟩
  have hb2 : Below w.heap.size w w' := ((Below.refl _ w).alloc (Nat.le_refl _) _).trans (hb.mono (by simp))
  have es := sorted_sel hown hh m hd ss hS
  have el : ss.length = (M.sel (fun k => (f (k : Int)).isSome) m).length := by rw [← es]; simp
  refine ⟨v, rfl, ?_, hb2⟩
  have hr := ownsRow_base_a hrow (base' := w.heap.size) (by simp)
  rw [es, el] at hr
  exact hr
end Go.Proofs.Ytcgpgflnihjpiac
