/- seek.firstUpTo, by sort.Search over any function. -/
import Derived.Test.YtcgpgflnihjpiabSeek0
import Derived.Test.YtcgpgflnihjpiabPlace
namespace Go.Proofs.Ytcgpgflnihjpiab
open Go.RowKit Go.Shelf

set_option maxHeartbeats 1000000 in
theorem search_gen (fn : Nat) (cs : List Value) (eg : ∀ args w, (callFunc fn args).run Try.prog w = .ok (.enter fn args) w) (n : Nat) (key : Int) (f : Nat → Int) (w : World) (hn : n ≤ 1000)
    (hcall : ∀ m i, i < n → Calls Try.prog fn (.int .i64 (i : Int) :: cs).toArray (w.drewN m) fun e w' => e = .returned (.bool (decide (key ≤ f i))) ∧ ∃ m', w' = (w.drewN m).drewN m')
    (hs : ∀ i j, i ≤ j → j < n → f i ≤ f j) :
    Calls Try.prog 55 #[.int .i64 n, .func (Fn.func fn) #[] cs.toArray] w
      fun e w' => (∃ k : Nat, e = .returned (.int .i64 k) ∧ k ≤ n ∧ (∀ i, i < k → f i < key) ∧ (k < n → key ≤ f k)) ∧ ∃ m, w' = w.drewN m := by
  have HC : Aside (∀ m i, i < n → Calls Try.prog fn (.int .i64 (i : Int) :: cs).toArray (w.drewN m) fun e w' => e = .returned (.bool (decide (key ≤ f i))) ∧ ∃ m', w' = (w.drewN m).drewN m') := hcall
  have HS : Aside (∀ i j, i ≤ j → j < n → f i ≤ f j) := hs
  clear hcall hs
  go_enter Try.func55, Try.ntmps55
  go_wp2
  go_loopg [5, 6] n (fun g vi vj wr => ∃ i j m : Nat, i ≤ j ∧ j ≤ n ∧ j - i ≤ g ∧ vi = .int .i64 i ∧ vj = .int .i64 j ∧ wr = w.drewN m ∧ Aside (∀ t, t < i → f t < key) ∧ Aside (j < n → key ≤ f j))
  case atStart => exact ⟨0, n, 0, by omega, by omega, by omega, rfl, rfl, rfl, fun t h => by omega, fun h => by omega⟩
  case round =>
    obtain ⟨i, j, m, hij, hj, hg, rfl, rfl, rfl, A, A2⟩ := hrel
    by_cases hlt : i < j
    · obtain ⟨h, hh⟩ : ∃ h : Nat, h = (i + j) / 2 := ⟨_, rfl⟩
      have e1 : ((i : Int) + (j : Int)) / 2 = (h : Int) := by omega
      have h1 : i ≤ h := by omega
      have h2 : h < j := by omega
      clear hh
      have E1 : Hid (((i : Int) + (j : Int)) / 2 = (h : Int)) := e1
      clear e1
      have LH : Hid (Calls Try.prog fn (.int .i64 (h : Int) :: cs).toArray (w.drewN m) fun e w' => e = .returned (.bool (decide (key ≤ f h))) ∧ ∃ m', w' = (w.drewN m).drewN m') := HC.out m h (by omega)
      obtain ⟨t, ht⟩ : ∃ t, t = decide (key ≤ f h) := ⟨_, rfl⟩
      rw [← ht] at LH
      have HT : Hid (t = decide (key ≤ f h)) := ht
      clear ht
      cases t with
      | true =>
        have hkx : key ≤ f h := by have := HT.out; simpa using this.symm
        go_wp2_with fail
        rw [E1.out]
        refine LH.out.mono ?_
        rintro e w' ⟨rfl, m', rfl⟩
        go_wp2
        go_roundg (h - i)
        case measure => omega
        case rel => exact ⟨i, h, m + m', by omega, by omega, by omega, rfl, by go_num, rfl, A, fun _ => hkx⟩
      | false =>
        have hkx : f h < key := by have := HT.out; simp at this; exact this
        go_wp2_with fail
        rw [E1.out]
        refine LH.out.mono ?_
        rintro e w' ⟨rfl, m', rfl⟩
        go_wp2
        go_roundg (j - (h + 1))
        case measure => omega
        case rel => exact ⟨h + 1, j, m + m', by omega, by omega, by omega, by go_num, rfl, rfl, fun t ht => by have := HS.out t h (by omega) (by omega); omega, A2⟩
    · go_wp2
      go_ret
      have : i = j := by omega
      subst this
      exact ⟨⟨i, rfl, hj, A.out, A2.out⟩, m, rfl⟩

/-- The function literal of firstUpTo. -/
theorem uplit_any (b off n cap xb xo m xc : Nat) (key x : Int) (p q i : Nat) (w : World) (hi : i < n) (hm : m ≤ 1000)
    (hp : w.cell? ⟨p, 0, none⟩ = some (.slice (some ⟨b, off, none⟩) n cap)) (hq : w.cell? ⟨q, 0, none⟩ = some (.int .i64 key))
    (hc : w.cell? ⟨b, off + i, none⟩ = some (.slice (some ⟨xb, xo, none⟩) (m + 1) xc))
    (hx : w.cell? ⟨xb, xo + m * 2, none⟩ = some (.int .i64 x)) :
    Calls Try.prog 56 #[.int .i64 i, .pointer (some ⟨p, 0, none⟩), .pointer (some ⟨q, 0, none⟩)] w fun e w' => e = .returned (.bool (decide (key ≤ x))) ∧ ∃ m', w' = w.drewN m' := by
  have hki : (i : Int) < (n : Int) := by omega
  have hmw : IntKind.i64.wrap (m : Int) = (m : Int) := by rw [IntKind.wrap_i64]; omega
  go_enter Try.func56, Try.ntmps56
  go_wp2_with fail
  go_quiet (fail)
  go_wp2
  go_ret
  exact ⟨rfl, _, rfl⟩

set_option maxHeartbeats 1000000 in
theorem firstUp_some (b off n cap : Nat) (L : List (List (Int × Int))) (key : Int) (w : World) (h : Lv w (some ⟨b, off, none⟩) n L) (hn0 : 0 < n) (hn : n ≤ 1000) (hok : M.Ok L.flatten) (hne : ∀ c ∈ L, c ≠ [] ∧ M.chk c = 0) :
    Calls Try.prog 40 #[.slice (some ⟨b, off, none⟩) n cap, .int .i64 key] w fun e w' => ∃ k : Nat, e = .returned (.int .i64 k) ∧ Hid (M.FU L key k) ∧ k ≤ n ∧ Below w.heap.size w w' := by
  obtain ⟨W, hW⟩ : ∃ W, W = (w.alloc (.cells #[.slice (some ⟨b, off, none⟩) n cap] 39)).alloc (.cells #[.int .i64 key] 3) := ⟨_, rfl⟩
  have hbW : Below w.heap.size w W := by rw [hW]; exact ((Below.refl _ _).alloc (Nat.le_refl _) _).alloc (by simp) _
  have cp : W.cell? ⟨w.heap.size, 0, none⟩ = some (.slice (some ⟨b, off, none⟩) n cap) := by rw [hW]; simp [go_sem]
  have cq : W.cell? ⟨w.heap.size + 1, 0, none⟩ = some (.int .i64 key) := by rw [hW]; simp [go_sem]
  have hLn := h.1
  obtain ⟨hB, hcell⟩ := h.at hn0
  have S := search_gen 56 [.pointer (some ⟨w.heap.size, 0, none⟩), .pointer (some ⟨w.heap.size + 1, 0, none⟩)] (enters_of Try.func56 (by kernel_rfl) rfl) n key (fun i => M.lastK (L.getD i [])) W hn
    (fun m i hi => by
      obtain ⟨a', n', c', q1, s1⟩ := hcell i hi
      have hmem : L.getD i [] ∈ L := M.at_mem (by omega)
      obtain ⟨x1, x2⟩ := hne _ hmem
      rcases s1.1.cases with ⟨_, e⟩ | ⟨xb, xo, rfl, hxn, hxl, hxB, hxc2⟩
      · exact absurd e x1
      have hx40 : n' ≤ 40 := by rw [← hxl]; exact ((M.chk_zero _).1 x2).1
      obtain ⟨m', rfl⟩ : ∃ m, n' = m + 1 := ⟨n' - 1, by omega⟩
      have e : M.lastK (L.getD i []) = ((L.getD i []).getD m' (0, 0)).1 := by unfold M.lastK; rw [hxl, Nat.add_sub_cancel]
      show Calls Try.prog _ _ _ fun e w' => e = .returned (.bool (decide (key ≤ M.lastK (L.getD i [])))) ∧ _
      rw [e]
      exact uplit_any b off n cap xb xo m' c' key _ w.heap.size (w.heap.size + 1) i (W.drewN m) hi (by omega) cp cq ((hbW.cell (p := ⟨b, off + i, none⟩) hB).trans q1) ((hbW.cell (p := ⟨xb, xo + m' * 2, none⟩) hxB).trans (hxc2 m' (by omega)).1))
    (fun i j hij hj => M.lasts_mono L hok (fun c hc => (hne c hc).1) i j hij (by omega))
  have SH : Hid (Calls Try.prog 55 #[.int .i64 n, .func (Fn.func 56) #[] #[.pointer (some ⟨w.heap.size, 0, none⟩), .pointer (some ⟨w.heap.size + 1, 0, none⟩)]] W
      fun e w' => (∃ k : Nat, e = .returned (.int .i64 k) ∧ k ≤ n ∧ (∀ i, i < k → M.lastK (L.getD i []) < key) ∧ (k < n → key ≤ M.lastK (L.getD k []))) ∧ ∃ m, w' = W.drewN m) := S
  have HW : Hid (W = (w.alloc (.cells #[.slice (some ⟨b, off, none⟩) n cap] 39)).alloc (.cells #[.int .i64 key] 3)) := hW
  have HLn : Hid (L.length = n) := hLn
  clear S hW cp cq hcell hLn h hok hne
  go_enter Try.func40, Try.ntmps40
  go_wp2_with fail
  rw [← HW.out]
  refine SH.out.mono ?_
  rintro e w' ⟨⟨k, rfl, hk, h1, h2⟩, m, rfl⟩
  have HF : Hid (M.FU L key k) := ⟨by rw [HLn.out]; exact hk, h1, by rw [HLn.out]; exact h2⟩
  clear h1 h2
  have hbm := below_drewN hbW m
  go_wp2
  go_ret
  exact ⟨k, rfl, HF, hk, hbm⟩
end Go.Proofs.Ytcgpgflnihjpiab
