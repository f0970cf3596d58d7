/- What a built tree is like. -/
import Derived.Test.YtcgpgflnihjpiacTCheck
namespace Go.Proofs.Ytcgpgflnihjpiac.M

theorem cut_zero_of {level : Int} {l : List (Int × Int)} (h : l ≠ []) : cut level l ≠ [] := by
  intro e
  have := cut_pos level l h
  rw [e] at this; simp at this

theorem buildF_like (f k : Nat) (l : List (Int × Int)) (hf : l.length ≤ f) (h : chk l = 0) :
    ((buildF f k l).getD 0 []).flatten = l ∧ (buildF f k l = [] ↔ l = []) ∧ (∀ i, i + 1 < (buildF f k l).length → ((buildF f k l).getD (i + 1) []).flatten = tell ((buildF f k l).getD i [])) ∧
      (∀ L ∈ buildF f k l, L.length ≤ 40 ∧ ∀ c ∈ L, c ≠ [] ∧ chk c = 0) ∧ (l ≠ [] → ((buildF f k l).getD ((buildF f k l).length - 1) []).length = 1) ∧ (buildF f k l).length ≤ lvl l.length := by
  induction f generalizing k l with
  | zero =>
    have : l = [] := List.eq_nil_of_length_eq_zero (by omega)
    subst this
    simp [buildF]
  | succ f ih =>
    by_cases hl : l = []
    · subst hl
      simp [buildF]
    · have hlp : 0 < l.length := List.length_pos_iff.2 hl
      have h40 := ((chk_zero l).1 h).1
      have hlev : (cut (k : Int) l).length ≤ 40 ∧ ∀ c ∈ cut (k : Int) l, c ≠ [] ∧ chk c = 0 := ⟨by have := cut_length_le (k : Int) l; omega, fun c hc => ⟨cut_ne _ l c hc, cut_chk h c hc⟩⟩
      by_cases h1 : (cut (k : Int) l).length = 1
      · rw [buildF_one f k l hl h1]
        refine ⟨by simp [cut_flat], by simp [hl], by simp, by simpa using hlev, fun _ => by simpa using h1, by have := (lvl_six l.length).1; simpa using this⟩
      · rw [buildF_more f k l hl h1]
        have hh := cut_half (k : Int) l
        have hp := cut_pos (k : Int) l hl
        obtain ⟨i1, i2, i3, i4, i5, i6⟩ := ih (k + 1) (tell (cut (k : Int) l)) (by rw [tell_length]; omega) (tell_cut_chk h)
        have hne : tell (cut (k : Int) l) ≠ [] := fun e => by have := congrArg List.length e; rw [tell_length, List.length_nil] at this; omega
        have hbne : buildF f (k + 1) (tell (cut (k : Int) l)) ≠ [] := fun e => hne (i2.1 e)
        generalize hB : buildF f (k + 1) (tell (cut (k : Int) l)) = Bt at *
        refine ⟨by simp [cut_flat], by simp [hl], fun i hi => ?_, fun L hL => ?_, fun _ => ?_, ?_⟩
        · cases i with
          | zero => simpa using i1
          | succ i => simpa using i3 i (by simpa using hi)
        · rcases List.mem_cons.1 hL with rfl | hL
          · exact hlev
          · exact i4 L hL
        · have hBl : 0 < Bt.length := List.length_pos_iff.2 hbne
          have := i5 hne
          rw [List.length_cons, Nat.add_sub_cancel, show Bt.length = (Bt.length - 1) + 1 by omega, List.getD_cons_succ]
          exact this
        · rw [tell_length] at i6
          have e1 := lvl_mono _ _ hh
          have e2 := lvl_step l.length h40 (by omega)
          rw [List.length_cons]; omega
end Go.Proofs.Ytcgpgflnihjpiac.M
namespace Go.Proofs.Ytcgpgflnihjpiac

theorem build_like (l : List (Int × Int)) (h : M.chk l = 0) :
    flat (M.build l) = l ∧ (M.build l = [] ↔ l = []) ∧ (∀ i, i + 1 < (M.build l).length → ((M.build l).getD (i + 1) []).flatten = M.tell ((M.build l).getD i [])) ∧
      (∀ L ∈ M.build l, L.length ≤ 40 ∧ ∀ c ∈ L, c ≠ [] ∧ M.chk c = 0) ∧ (l ≠ [] → ((M.build l).getD ((M.build l).length - 1) []).length = 1) ∧ (M.build l).length ≤ 6 := by
  obtain ⟨i1, i2, i3, i4, i5, i6⟩ := M.buildF_like l.length 0 l (Nat.le_refl _) h
  exact ⟨i1, i2, i3, i4, i5, Nat.le_trans i6 (M.lvl_six _).2⟩
theorem build_tree (l : List (Int × Int)) (h : M.chk l = 0) : treeE (M.build l) = 0 := by
  unfold treeE
  rw [(build_like l h).1, if_pos ⟨h, rfl⟩]
theorem build_big (l : List (Int × Int)) (h : M.chk l = 0) : Big (M.build l) := by
  intro c hc
  by_cases hz : 0 < (M.build l).length
  · have hm : ground (M.build l) ∈ M.build l := getD_memT _ [] 0 hz
    have := ((M.chk_zero c).1 (((build_like l h).2.2.2.1 _ hm).2 c hc).2).1
    omega
  · have : M.build l = [] := List.eq_nil_of_length_eq_zero (by omega)
    rw [this] at hc
    simp [ground] at hc
end Go.Proofs.Ytcgpgflnihjpiac
