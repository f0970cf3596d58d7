/- dag.Above, dag.Bases. -/
import Derived.Test.YtcgpgflnihjpiadDag3
namespace Go.Proofs.Ytcgpgflnihjpiad
open Go.RowKit

theorem AllPost.of {L : List M.Com} {xs : List Int} {n : Nat} {w w1 : World} {e : Ending} {w' : World} (h : AllPost L xs n w1 e w') (hb : Below w.heap.size w w1) : AllPost L xs n w e w' := by
  have hs := hb.size
  obtain ⟨h1, h2⟩ := h
  refine ⟨hb.trans (h1.mono hs), ?_⟩
  rcases h2 with h2 | ⟨h3, g, hg, h4⟩
  · exact Or.inl h2
  · exact Or.inr ⟨h3, g, by omega, h4⟩

theorem dabove_bad (a : Option Addr) (n cap : Nat) (L : List M.Com) (x : Int) (w : World) (h : Cm w a n L) (hm : n ≤ 9223372036854775807) (hz : M.dchk L ≠ 0) :
    Calls Try.prog 23 #[.slice a n cap, .int .i64 x] w fun e w' => e = .returned (.tuple #[.slice none 0 0, .int .i64 (M.dchk L)]) ∧ Below w.heap.size w w' := by
  have hb : Below w.heap.size w (w.alloc (.cells #[.int .i64 x] 3)) := (Below.refl _ _).alloc (Nat.le_refl _) _
  have H := aboveAll_bad a n cap L (.slice (some ⟨w.heap.size, 0, none⟩) 1 1) (w.alloc (.cells #[.int .i64 x] 3)) (h.below hb (Nat.le_refl _)) hm hz
  obtain ⟨c, hc⟩ : ∃ c, c = M.dchk L := ⟨_, rfl⟩
  rw [← hc] at H ⊢
  have HH : Hid (Calls Try.prog 49 #[.slice a n cap, .slice (some ⟨w.heap.size, 0, none⟩) 1 1] (w.alloc (.cells #[.int .i64 x] 3)) fun e w' => e = .returned (.tuple #[.slice none 0 0, .int .i64 c]) ∧ Below (w.alloc (.cells #[.int .i64 x] 3)).heap.size (w.alloc (.cells #[.int .i64 x] 3)) w') := H
  clear H hz hc h
  go_enter Try.func23, Try.ntmps23
  go_wp2_with (go_at_call 49; refine HH.out.mono ?_; rintro e w' ⟨rfl, hb1⟩)
  go_ret2
  exact ⟨rfl, hb.trans (hb1.mono hb.size)⟩

theorem dabove_good (a : Option Addr) (n cap : Nat) (L : List M.Com) (x : Int) (w : World) (h : Cm w a n L) (hz : M.dchk L = 0) :
    Calls Try.prog 23 #[.slice a n cap, .int .i64 x] w fun e w' => AllPost L [x] n w e w' := by
  have hb : Below w.heap.size w (w.alloc (.cells #[.int .i64 x] 3)) := (Below.refl _ _).alloc (Nat.le_refl _) _
  have H := aboveAll_good a n cap L w.heap.size 0 1 1 [x] (w.alloc (.cells #[.int .i64 x] 3)) (h.below hb (Nat.le_refl _)) hz (by omega) rfl (by simp) (ri_one w x)
  have HH : Hid (Calls Try.prog 49 #[.slice a n cap, .slice (some ⟨w.heap.size, 0, none⟩) 1 1] (w.alloc (.cells #[.int .i64 x] 3)) fun e w' => AllPost L [x] n (w.alloc (.cells #[.int .i64 x] 3)) e w') := H
  clear H hz h
  go_enter Try.func23, Try.ntmps23
  go_wp2_with fail
  refine HH.out.mono ?_
  intro e w' hp
  have hp2 := hp.of hb
  obtain ⟨k1, k2⟩ := hp2
  rcases k2 with ⟨k2, rfl⟩ | ⟨k2, g, k3, rfl, k4⟩
  · go_wp2
    go_ret2
    exact ⟨k1, Or.inl ⟨k2, rfl⟩⟩
  · have K4 : Hid (Bo w' g ((List.range n).map (M.all L [x]))) := k4
    clear k4
    go_wp2
    go_ret2
    exact ⟨k1, Or.inr ⟨k2, g, k3, rfl, K4.out⟩⟩

end Go.Proofs.Ytcgpgflnihjpiad
