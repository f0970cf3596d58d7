/- Heads in memory; slices.IndexFunc, slices.ContainsFunc at heads. -/
import Derived.Test.YtcgpgflnihjpiaeBase
import Derived.Test.YtcgpgflnihjpiaeRepo0
namespace Go.Proofs.Ytcgpgflnihjpiae
open Go.RowKit

/-- The slice at a, of n heads, holds the heads H. -/
def Hs (w : World) (a : Option Addr) (n : Nat) (H : List M.Hd) : Prop :=
  H.length = n ∧ (n = 0 ∨ ∃ b off, a = some ⟨b, off, none⟩ ∧ b < w.heap.size ∧ ∀ i, i < n → w.cell? ⟨b, off + i * 2, none⟩ = some (.string (H.getD i M.hd0).1) ∧ w.cell? ⟨b, off + i * 2 + 1, none⟩ = some (.int .i64 (H.getD i M.hd0).2) ∧ (H.getD i M.hd0).1.size ≤ 9223372036854775807)
theorem Hs.below {w w' : World} {a : Option Addr} {n : Nat} {H : List M.Hd} (h : Hs w a n H) {B : Nat} (hb : Below B w w') (hB : w.heap.size ≤ B) : Hs w' a n H := by
  obtain ⟨h1, h2⟩ := h
  refine ⟨h1, ?_⟩
  rcases h2 with h2 | ⟨b, off, ha, hlt, hc⟩
  · exact Or.inl h2
  · refine Or.inr ⟨b, off, ha, Nat.lt_of_lt_of_le hlt hb.size, fun i hi => ?_⟩
    rw [hb.cell (p := ⟨b, off + i * 2, none⟩) (by show b < B; omega), hb.cell (p := ⟨b, off + i * 2 + 1, none⟩) (by show b < B; omega)]
    exact hc i hi
theorem Hs.cases {w : World} {a : Option Addr} {n : Nat} {H : List M.Hd} (h : Hs w a n H) : (n = 0 ∧ H = []) ∨ ∃ b off, a = some ⟨b, off, none⟩ ∧ 0 < n ∧ H.length = n ∧ b < w.heap.size ∧ ∀ i, i < n → w.cell? ⟨b, off + i * 2, none⟩ = some (.string (H.getD i M.hd0).1) ∧ w.cell? ⟨b, off + i * 2 + 1, none⟩ = some (.int .i64 (H.getD i M.hd0).2) ∧ (H.getD i M.hd0).1.size ≤ 9223372036854775807 := by
  obtain ⟨h1, h2⟩ := h
  by_cases hn : n = 0
  · exact Or.inl ⟨hn, List.eq_nil_of_length_eq_zero (by omega)⟩
  · rcases h2 with h2 | ⟨b, off, ha, hlt, hc⟩
    · exact absurd h2 hn
    · exact Or.inr ⟨b, off, ha, by omega, h1, hlt, hc⟩
theorem Hs.small {w : World} {a : Option Addr} {n : Nat} {H : List M.Hd} (h : Hs w a n H) : ∀ x ∈ H, x.1.size ≤ 9223372036854775807 := by
  intro x hx
  obtain ⟨i, hi, e⟩ := List.getElem_of_mem hx
  rcases h.cases with ⟨_, rfl⟩ | ⟨b, off, _, _, hl, _, hc⟩
  · simp at hi
  · have := (hc i (by omega)).2.2
    rw [show H.getD i M.hd0 = x by simp [List.getD, hi, e]] at this
    exact this

/-- What is asked of a function of heads that is handed on. -/
def Asks (g : Nat) (cs : List Value) (p : M.Hd → Bool) (H : List M.Hd) (w : World) : Prop :=
  ∀ W x, x ∈ H → Below w.heap.size w W → Calls Try.prog g (.agg #[.string x.1, .int .i64 x.2] :: cs).toArray W fun e w' => e = .returned (.bool (p x)) ∧ Below W.heap.size W w'

theorem index_none (fn : Value) (a : Option Addr) (cap : Nat) (w : World) :
    Calls Try.prog 30 #[.slice a 0 cap, fn] w fun e w' => e = .returned (.int .i64 (-1)) ∧ w' = w := by
  go_enter Try.func30, Try.ntmps30
  go_wp2
  refine wp_loop_rounds 1 ?_
  rw [rounds_succ]
  go_wp2
  go_ret
  exact ⟨rfl, rfl⟩

set_option maxHeartbeats 2000000 in
theorem index_some (g : Nat) (cs : List Value) (eg : ∀ args w, (callFunc g args).run Try.prog w = .ok (.enter g args) w) (p : M.Hd → Bool) (b off n cap : Nat) (H : List M.Hd) (w : World) (hm : n ≤ 9223372036854775807) (hl : H.length = n) (hB : b < w.heap.size)
    (hc : ∀ i, i < n → w.cell? ⟨b, off + i * 2, none⟩ = some (.string (H.getD i M.hd0).1) ∧ w.cell? ⟨b, off + i * 2 + 1, none⟩ = some (.int .i64 (H.getD i M.hd0).2) ∧ (H.getD i M.hd0).1.size ≤ 9223372036854775807) (hp : Asks g cs p H w) :
    Calls Try.prog 30 #[.slice (some ⟨b, off, none⟩) n cap, .func (.func g) #[] cs.toArray] w fun e w' => e = .returned (.int .i64 (M.idxF p H 0)) ∧ Below w.heap.size w w' := by
  have HC : Aside (∀ i, i < n → w.cell? ⟨b, off + i * 2, none⟩ = some (.string (H.getD i M.hd0).1) ∧ w.cell? ⟨b, off + i * 2 + 1, none⟩ = some (.int .i64 (H.getD i M.hd0).2) ∧ (H.getD i M.hd0).1.size ≤ 9223372036854775807) := hc
  have HL : Aside (H.length = n) := hl
  have HP : Aside (Asks g cs p H w) := hp
  clear hc hl hp
  go_enter Try.func30, Try.ntmps30
  go_wp2
  go_loopg [8] n (fun g i wr => ∃ (k : Nat), k + g = n ∧ i = .int .i64 k ∧ Below w.heap.size w wr ∧ Aside (M.idxF p (H.drop k) k = M.idxF p H 0))
  case atStart => exact ⟨0, by omega, rfl, Below.refl _ _, by simp [Aside]⟩
  case round =>
    obtain ⟨k, hk, rfl, hbel, A⟩ := hrel
    by_cases hlt : k < n
    · obtain ⟨x, hx⟩ : ∃ x, H.getD k M.hd0 = x := ⟨_, rfl⟩
      have c0 : wr.cell? ⟨b, off + k * 2, none⟩ = some (.string x.1) := by rw [hbel.cell (p := ⟨b, off + k * 2, none⟩) hB, (HC.out k hlt).1, hx]
      have c1 : wr.cell? ⟨b, off + k * 2 + 1, none⟩ = some (.int .i64 x.2) := by rw [hbel.cell (p := ⟨b, off + k * 2 + 1, none⟩) hB, (HC.out k hlt).2.1, hx]
      have hmem : x ∈ H := by rw [← hx]; have := HL.out; simp [List.getD, this, hlt]
      have LH : Hid (Calls Try.prog g (.agg #[.string x.1, .int .i64 x.2] :: cs).toArray wr fun e w' => e = .returned (.bool (p x)) ∧ Below wr.heap.size wr w') := HP.out wr x hmem hbel
      have HX : Aside (H.getD k M.hd0 = x) := hx
      obtain ⟨t, ht⟩ : ∃ t, p x = t := ⟨_, rfl⟩
      rw [ht] at LH
      have HT : Aside (p x = t) := ht
      have hki : (k : Int) < (n : Int) := by omega
      clear hx ht hmem
      cases t with
      | true =>
        go_wp2_with fail
        refine LH.out.mono ?_
        rintro e w1 ⟨rfl, hb1⟩
        go_wp2
        go_ret
        exact ⟨ret_int (by rw [← A.out, M.idxF_yes p H k M.hd0 (by rw [HL.out]; exact hlt) (by rw [HX.out]; exact HT.out)]), hbel.trans (hb1.mono hbel.size)⟩
      | false =>
        go_wp2_with fail
        refine LH.out.mono ?_
        rintro e w1 ⟨rfl, hb1⟩
        go_wp2
        go_roundg (gk - 1)
        case measure => omega
        case rel => exact ⟨k + 1, by omega, by go_num, hbel.trans (hb1.mono hbel.size), by unfold Aside; rw [← A.out, M.idxF_no p H k M.hd0 (by rw [HL.out]; exact hlt) (by rw [HX.out]; exact HT.out)]⟩
    · go_wp2
      go_ret
      exact ⟨ret_int (by rw [← A.out, M.idxF_end p H k (by rw [HL.out]; omega)]), hbel⟩
theorem index_any (g : Nat) (cs : List Value) (eg : ∀ args w, (callFunc g args).run Try.prog w = .ok (.enter g args) w) (p : M.Hd → Bool) (a : Option Addr) (n cap : Nat) (H : List M.Hd) (w : World) (h : Hs w a n H) (hm : n ≤ 9223372036854775807) (hp : Asks g cs p H w) :
    Calls Try.prog 30 #[.slice a n cap, .func (.func g) #[] cs.toArray] w fun e w' => e = .returned (.int .i64 (M.idxF p H 0)) ∧ Below w.heap.size w w' := by
  rcases h.cases with ⟨rfl, rfl⟩ | ⟨b, off, rfl, hn, hl, hB, hc⟩
  · refine (index_none _ a cap w).mono ?_
    rintro e w' ⟨rfl, rfl⟩
    exact ⟨rfl, Below.refl _ _⟩
  · exact index_some g cs eg p b off n cap H w hm hl hB hc hp
theorem hcontains_any (g : Nat) (cs : List Value) (eg : ∀ args w, (callFunc g args).run Try.prog w = .ok (.enter g args) w) (p : M.Hd → Bool) (a : Option Addr) (n cap : Nat) (H : List M.Hd) (w : World) (h : Hs w a n H) (hm : n ≤ 9223372036854775807) (hp : Asks g cs p H w) :
    Calls Try.prog 38 #[.slice a n cap, .func (.func g) #[] cs.toArray] w fun e w' => e = .returned (.bool (H.any p)) ∧ Below w.heap.size w w' := by
  have H1 : Hid (Calls Try.prog 30 #[.slice a n cap, .func (.func g) #[] cs.toArray] w fun e w' => e = .returned (.int .i64 (M.idxF p H 0)) ∧ Below w.heap.size w w') := index_any g cs eg p a n cap H w h hm hp
  obtain ⟨r, hr⟩ : ∃ r, M.idxF p H 0 = r := ⟨_, rfl⟩
  have h2 := M.idxF_neg p H 0
  rw [hr] at h2 H1
  have H2 : Hid (0 ≤ r ↔ H.any p = true) := h2
  clear hr h2 hp h
  go_enter Try.func38, Try.ntmps38
  go_wp2_with fail
  refine H1.out.mono ?_
  rintro e w' ⟨rfl, hb⟩
  go_wp2
  go_ret
  refine ⟨ret_bool ?_, hb⟩
  rw [Bool.eq_iff_iff, ← H2.out]
  simp
end Go.Proofs.Ytcgpgflnihjpiae
