/- tree.tell and tree.Build. -/
import Derived.Test.YtcgpgflnihjpiacLevel
import Derived.Test.YtcgpgflnihjpiacTree0
namespace Go.Proofs.Ytcgpgflnihjpiac
open Go.RowKit

theorem Lv.at {w : World} {b off n : Nat} {LL : List (List (Int × Int))} (h : Lv w (some ⟨b, off, none⟩) n LL) (hn : 0 < n) : b < w.heap.size ∧ ∀ i, i < n → ∃ a' n' c', w.cell? ⟨b, off + i, none⟩ = some (.slice a' n' c') ∧ Sl w a' n' c' (LL.getD i []) := by
  rcases h.2 with e | ⟨b', off', e, hlt, hc⟩
  · omega
  · obtain ⟨rfl, rfl⟩ : b = b' ∧ off = off' := by simpa using e
    exact ⟨hlt, hc⟩

theorem tell_snoc (LL : List (List (Int × Int))) (k : Nat) (h : k < LL.length) : M.tell (LL.take (k + 1)) = M.tell (LL.take k) ++ [M.tellOf (LL.getD k [])] := by
  unfold M.tell
  rw [List.take_succ_eq_append_getElem h, List.map_append]
  simp [List.getD, h]

set_option maxHeartbeats 4000000 in
theorem tell_some (b off n cap : Nat) (LL : List (List (Int × Int))) (w : World) (h : Lv w (some ⟨b, off, none⟩) n LL) (hn0 : 0 < n) (hn : n ≤ 40) (hne : ∀ c ∈ LL, c ≠ []) (hchk : ∀ c ∈ LL, M.chk c = 0) :
    Calls Try.prog 63 #[.slice (some ⟨b, off, none⟩) n cap] w fun e w' => ∃ v, e = .returned (.tuple #[v, .int .i64 0]) ∧ Own w' w.heap.size v (M.tell LL) ∧ Below w.heap.size w w' := by
  obtain ⟨hB, hcell⟩ := h.at hn0
  have HL : Aside (LL.length = n) := h.1
  have HCell : Aside (∀ i, i < n → ∃ a' n' c', w.cell? ⟨b, off + i, none⟩ = some (.slice a' n' c') ∧ Sl w a' n' c' (LL.getD i [])) := hcell
  have HNe : Aside (∀ c ∈ LL, c ≠ []) := hne
  have HChk : Aside (∀ c ∈ LL, M.chk c = 0) := hchk
  clear h hcell hne hchk
  go_enter Try.func63, Try.ntmps63
  go_wp2
  go_loopg [4, 11] n (fun g v i wr => ∃ k : Nat, k + g = n ∧ i = .int .i64 k ∧ Aside (Own wr w.heap.size v (M.tell (LL.take k))) ∧ Below w.heap.size w wr)
  case atStart => exact ⟨0, by omega, rfl, World.ownsRow_nil _ _ _ _, Below.refl _ _⟩
  case round =>
    obtain ⟨k, hk, rfl, HO, hbel⟩ := hrel
    have hsz := hbel.size
    by_cases hlt : k < n
    · obtain ⟨a', n', c', q1, s1⟩ := HCell.out k hlt
      have hmem : LL.getD k [] ∈ LL := by rw [List.getD, List.getElem?_eq_getElem (by rw [HL.out]; exact hlt)]; simp
      obtain ⟨x, hx⟩ : ∃ x, x = LL.getD k [] := ⟨_, rfl⟩
      rw [← hx] at s1 hmem
      have hxne := HNe.out x hmem
      have hxc := HChk.out x hmem
      have sw := s1.below hbel
      rcases sw.1.cases with ⟨_, e⟩ | ⟨xb, xo, rfl, hxn, hxl, hxB, hxc2⟩
      · exact absurd e hxne
      have hx40 : n' ≤ 40 := by rw [← hxl]; exact ((M.chk_zero x).1 hxc).1
      have qc : wr.cell? ⟨b, off + k, none⟩ = some (.slice (some ⟨xb, xo, none⟩) n' c') := (hbel.cell (p := ⟨b, off + k, none⟩) hB).trans q1
      obtain ⟨m, rfl⟩ : ∃ m, n' = m + 1 := ⟨n' - 1, by omega⟩
      have HSum := sum_any (some ⟨xb, xo, none⟩) (m + 1) c' x wr sw.1 (by omega)
      rw [show M.sumV x = M.sum x by unfold M.sumV; rw [if_pos hxc], hxc] at HSum
      have hkey := (hxc2 m (by omega)).1
      obtain ⟨s, hs⟩ : ∃ s, s = M.sum x := ⟨_, rfl⟩
      obtain ⟨ky, hky⟩ : ∃ ky, ky = (x.getD m (0, 0)).1 := ⟨_, rfl⟩
      rw [← hs] at HSum
      rw [← hky] at hkey
      have HS : Aside (Calls Try.prog 85 #[.slice (some ⟨xb, xo, none⟩) (m + 1) c'] wr fun e w' => e = .returned (.tuple #[.int .i64 s, .int .i64 0]) ∧ Below wr.heap.size wr w') := HSum
      have HKey : Aside (∀ W, Below wr.heap.size wr W → W.cell? ⟨xb, xo + m * 2, none⟩ = some (.int .i64 ky)) := fun W hW => (hW.cell (p := ⟨xb, xo + m * 2, none⟩) hxB).trans hkey
      have ET : Aside (M.tell (LL.take (k + 1)) = M.tell (LL.take k) ++ [(ky, s)]) := by
        unfold Aside
        rw [tell_snoc LL k (by rw [HL.out]; exact hlt), ← hx]
        have : M.tellOf x = (ky, s) := by unfold M.tellOf; rw [hxl, Nat.add_sub_cancel, hky, hs]
        rw [this]
      have HLen : Aside ((M.tell (LL.take k)).length + 1 ≤ 1000000) := by unfold Aside; rw [M.tell_length, List.length_take]; omega
      clear q1 s1 sw hxc2 HSum hkey hs hky hxc hxne hmem hx hxl
      go_wp2_with (first | (go_at_call 85; refine HS.out.mono ?_; rintro e w1 ⟨rfl, b1⟩; have hky1 := HKey.out w1 b1; have HO1 : Hid (Own (w1.alloc (.cells #[.int .i64 ky, .int .i64 s] 56)) w.heap.size u4 (M.tell (LL.take k))) := World.ownsRow.alloc (ownsRow_other HO.out (grown_none b1) (fun r e => by cases e)) _; have HR1 : Hid (Rd (w1.alloc (.cells #[.int .i64 ky, .int .i64 s] 56)) (some ⟨w1.heap.size, 0, none⟩) 1 [(ky, s)]) := one_rd w1 _ _; have hb1 : Below w.heap.size w w1 := hbel.trans (b1.mono hsz)) | (at_builtin; refine append_rd rfl _ _ rfl w.heap.size _ (M.tell (LL.take k)) rfl HO1.out (some ⟨w1.heap.size, 0, none⟩) 1 1 _ rfl HR1.out (by simp) HLen.out (by have := hb1.size; simp; omega) ?_))
      intro v' w' ho' hb3
      have HO' : Aside (Own w' w.heap.size v' (M.tell (LL.take (k + 1)))) := by unfold Aside; rw [ET.out]; exact ho'
      have hb4 : Below w.heap.size w w' := (hb1.alloc hb1.size _).trans hb3
      clear ho' hb3 HO1 HR1
      go_wp2
      go_roundg (gk - 1)
      case measure => omega
      case rel => exact ⟨k + 1, by omega, by go_num, HO', hb4⟩
    · obtain rfl : k = n := by omega
      have HO1 : Aside (Own wr w.heap.size u4 (M.tell LL)) := by
        have h5 := HO.out
        rw [List.take_of_length_le (by rw [HL.out]; omega)] at h5
        exact h5
      go_wp2
      go_ret2
      exact ⟨_, rfl, HO1.out, hbel⟩
end Go.Proofs.Ytcgpgflnihjpiac
