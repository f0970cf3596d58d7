/- The desk's place, rows, move. -/
import Derived.Test.YtcgpgflnihjpiafGreatBWorkRight02
import Derived.Test.YtcgpgflnihjpiafGreatBWorkRight01
import Derived.Shelf.Abstract
import Derived.Laws.EntriesVeiled
import Derived.Lib.AppendZeros
namespace Go.Proofs.YtcgpgflnihjpiafGreat
open Go.RowKit Go.Shelf

theorem place1_any (x : M.Hd) (q : Nat) (s : ByteArray) (w : World) (hq : w.cell? ⟨q, 0, none⟩ = some (.string s)) (hql : q < w.heap.size) :
    Calls Tryz.prog 113 #[.agg #[.string x.1, .int .i64 x.2], .pointer (some ⟨q, 0, none⟩)] w fun e w' => e = .returned (.bool (M.alike x.1 s)) ∧ Below w.heap.size w w' := by
  have hb : Below w.heap.size w (w.alloc (.cells #[.string x.1, .int .i64 x.2] 71)) := (Below.refl _ _).alloc (Nat.le_refl _) _
  have hq1 : (w.alloc (.cells #[.string x.1, .int .i64 x.2] 71)).cell? ⟨q, 0, none⟩ = some (.string s) := (hb.cell (p := ⟨q, 0, none⟩) hql).trans hq
  go_enter Tryz.func113, Tryz.ntmps113
  go_wp2
  go_ret
  exact ⟨rfl, hb⟩

theorem dplace_any (D base : Nat) (C : List M.Com) (H : List M.Hd) (A : List Int) (s : ByteArray) (w : World) (hD : DeskAt w base D C H A) :
    Calls Tryz.prog 75 #[.pointer (some ⟨D, 0, none⟩), .string s] w fun e w' => e = .returned (.int .i64 (M.plc H s)) ∧ Below w.heap.size w w' := by
  have hlt := hD.lt
  obtain ⟨x, y, z, h1, _, _, h4, _⟩ := hD
  obtain ⟨a, cap, rfl, hs, hc1, hc2, _⟩ := h4.hs
  obtain ⟨W, hW⟩ : ∃ W, W = w.alloc (.cells #[.string s] 9) := ⟨_, rfl⟩
  have hb : Below w.heap.size w W := by rw [hW]; exact (Below.refl _ _).alloc (Nat.le_refl _) _
  have hq : W.cell? ⟨w.heap.size, 0, none⟩ = some (.string s) := by rw [hW]; simp [go_sem]
  have hql : w.heap.size < W.heap.size := by rw [hW]; simp
  have k1 : W.cell? ⟨D, 1, none⟩ = some (.slice a H.length cap) := (hb.cell (p := ⟨D, 1, none⟩) hlt).trans (by rw [cell_of_row _ _ _ _ _ _ h1]; rfl)
  have k1' : w.cell? ⟨D, 1, none⟩ = some (.slice a H.length cap) := by rw [cell_of_row _ _ _ _ _ _ h1]; rfl
  rw [hW] at k1
  have K := index_any 113 [.pointer (some ⟨w.heap.size, 0, none⟩)] (enters_of Tryz.func113 (by kernel_rfl) rfl) (fun h => M.alike h.1 s) a H.length cap H W (hs.below hb (Nat.le_refl _)) (by unfold maxLen at hc2; omega) (fun W' x hx hbx => place1_any x w.heap.size s W' ((hbx.cell (p := ⟨w.heap.size, 0, none⟩) hql).trans hq) (Nat.lt_of_lt_of_le hql hbx.size))
  have KK : Hid (Calls Tryz.prog 38 #[.slice a H.length cap, .func (.func 113) #[] #[.pointer (some ⟨w.heap.size, 0, none⟩)]] W fun e w' => e = .returned (.int .i64 (M.plc H s)) ∧ Below W.heap.size W w') := K
  have HW : Hid (W = w.alloc (.cells #[.string s] 9)) := hW
  clear K hs hW hq h1 h4
  go_enter Tryz.func75, Tryz.ntmps75
  go_wp2_with fail
  rw [← HW.out]
  refine KK.out.mono ?_
  rintro e w' ⟨rfl, hb1⟩
  go_wp2
  go_ret
  exact ⟨rfl, hb.trans (hb1.mono hb.size)⟩

theorem drows_any (D base : Nat) (C : List M.Com) (H : List M.Hd) (A : List Int) (k : Nat) (w : World) (hD : DeskAt w base D C H A) (hk : k < C.length) :
    Calls Tryz.prog 48 #[.pointer (some ⟨D, 0, none⟩), .int .i64 k] w fun e w' => ∃ a cap, e = .returned (.slice a (C.getD k ([], [])).1.length cap) ∧ Own w' base (.slice a (C.getD k ([], [])).1.length cap) (C.getD k ([], [])).1 ∧ w' = w := by
  obtain ⟨x, y, z, h1, _, h3, _, _⟩ := hD
  have h3' := h3
  obtain ⟨vals, hl, h0, hv⟩ := h3'
  obtain ⟨a, cap, e, hcm, _⟩ := h3.cm
  subst e
  obtain ⟨o1, _⟩ := hv k hk
  obtain ⟨a1, c1, e1, _⟩ := o1.rd
  have HO : Hid (Own w base (.slice a1 (C.getD k ([], [])).1.length c1) (C.getD k ([], [])).1) := by rw [← e1]; exact o1
  obtain ⟨g, rfl⟩ : ∃ g, a = some ⟨g, 0, none⟩ := by
    rcases h0.2 with ⟨e, _⟩ | ⟨g, _, _, e, _⟩
    · simp at e; omega
    · simp at e; exact ⟨g, e.1⟩
  have k0 : w.cell? ⟨D, 0, none⟩ = some (.slice (some ⟨g, 0, none⟩) C.length cap) := by rw [cell_of_row _ _ _ _ _ _ h1]; rfl
  have kr : w.cell? ⟨g, k * 2, none⟩ = some (.slice a1 (C.getD k ([], [])).1.length c1) := by
    rw [World.ownsRow.cellAt h0 (k * 2) (by omega), encP_fst vals k (by omega), e1]
  obtain ⟨m, hm⟩ : ∃ m, m = (C.getD k ([], [])).1.length := ⟨_, rfl⟩
  rw [← hm] at kr HO ⊢
  have hki : (k : Int) < (C.length : Int) := by omega
  clear hcm h0 hv o1 h3 h1 e1 hm
  go_enter Tryz.func48, Tryz.ntmps48
  go_wp2
  go_ret
  exact ⟨a1, c1, rfl, HO.out, rfl⟩

/-- A head set at another commit. -/
def M.mv (H : List M.Hd) (s : ByteArray) (x : Int) : List M.Hd := H.set (M.plc H s).toNat ((H.getD (M.plc H s).toNat M.hd0).1, x)
theorem encH_set (H : List M.Hd) (k : Nat) (x : Int) (h : k < H.length) : encH (H.set k ((H.getD k M.hd0).1, x)) = (encH H).set (k * 2 + 1) (.int .i64 x) := by
  induction H generalizing k with
  | nil => simp at h
  | cons r t ih =>
    cases k with
    | zero => simp [encH]
    | succ k =>
      have := ih k (by simpa using h)
      rw [List.set_cons_succ, encH_cons, encH_cons, show (k + 1) * 2 + 1 = k * 2 + 1 + 1 + 1 by omega, List.set_cons_succ, List.set_cons_succ]
      simp at this ⊢
      exact this
theorem DeskAt.moved {w : World} {base D g cap k : Nat} {x z : Value} {C : List M.Com} {H : List M.Hd} {A : List Int} (n : Int) (h1 : w.heap[D]? = some (.cells #[x, .slice (some ⟨g, 0, none⟩) H.length cap, z] 82 (0, 0))) (h2 : base ≤ D) (h3 : OwnK w base x C) (h4 : OwnH w base (.slice (some ⟨g, 0, none⟩) H.length cap) H) (h5 : OwnI w base z A) (hk : k < H.length) :
    DeskAt (w.setCell ⟨g, k * 2 + 1, none⟩ (.int .i64 n)) base D C (H.set k ((H.getD k M.hd0).1, n)) A ∧ w.frozen? ⟨g, k * 2 + 1, none⟩ = false ∧ base ≤ g := by
  have h40 := h4.1
  obtain ⟨⟨hl, hor⟩, hsm⟩ := h4
  rcases hor with ⟨e, _⟩ | ⟨g', cap', cur, e, hb, hh, hc, hm, hz, hx⟩
  · simp at e
  · simp only [Value.slice.injEq, Option.some.injEq, Addr.mk.injEq] at e
    obtain ⟨⟨rfl, _⟩, _, rfl⟩ := e
    have gg := grownBy_set w ⟨g, k * 2 + 1, none⟩ (.int .i64 n)
    have hgD : g ≠ D := fun e => by rw [e, h1] at hh; simp at hh
    refine ⟨⟨x, .slice (some ⟨g, 0, none⟩) H.length cap, z, ?_, h2, h3.elsewhere gg hh (by decide) (by decide) (by decide), ⟨⟨?_, Or.inr ⟨g, cap, cur.setIfInBounds (k * 2 + 1) (.int .i64 n), by simp, hb, ?_, by simpa using hc, hm, by simpa using hz, ?_⟩⟩, ?_⟩, ownsRow_elsewhere h5 gg fun r e cur' he => ?_⟩, frozen_of_row _ _ _ _ _ hh, hb⟩
    · rw [heap_setCell_other _ _ _ _ (fun e => hgD e.symm)]; exact h1
    · simp [encH_length]
    · exact heap_setCell_same _ _ _ _ _ _ hh
    · rw [encH_set H k n hk, Array.toList_setIfInBounds, List.length_set, List.take_set, hx]
    · intro y hy
      rcases List.mem_or_eq_of_mem_set hy with hy | rfl
      · exact hsm y hy
      · exact hsm (H.getD k M.hd0) (by simp [List.getD, hk])
    · cases e
      rw [show w.heap[g]? = _ from hh] at he
      simp at he
end Go.Proofs.YtcgpgflnihjpiafGreat

/- The desk's move, commit. -/
namespace Go.Proofs.YtcgpgflnihjpiafGreat
open Go.RowKit Go.Shelf

/-- All blocks that are neither desks nor heads nor commits are as they were. -/
def Kt (w w' : World) : Prop := ∀ (k : Nat) (cur : Array Value) (t : TypeId), t ≠ 82 → t ≠ 71 → t ≠ 51 → w.heap[k]? = some (.cells cur t (0, 0)) → w'.heap[k]? = some (.cells cur t (0, 0))
theorem Kt.trans {a b c : World} (h : Kt a b) (k : Kt b c) : Kt a c := fun n cur t h1 h2 h3 e => k n cur t h1 h2 h3 (h n cur t h1 h2 h3 e)
theorem Kt.of {w w' : World} (h : Below w.heap.size w w') : Kt w w' := fun k _ _ _ _ _ e => (h.block k (Array.getElem?_eq_some_iff.1 e).1).trans e
theorem Kt.grown {w w' : World} {r : Option Nat} (h : w.grownBy w' r) (hr : ∀ k, r = some k → ∃ cur t, w.heap[k]? = some (.cells cur t (0, 0)) ∧ (t = 82 ∨ t = 71 ∨ t = 51)) : Kt w w' := fun k cur t h1 h2 h3 e => by
  refine (h.block k (Array.getElem?_eq_some_iff.1 e).1 fun er => ?_).trans e
  obtain ⟨cur', t', e', ht⟩ := hr k er.symm
  rw [e] at e'
  simp at e'
  rcases ht with ht | ht | ht
  · exact h1 (e'.2.trans ht)
  · exact h2 (e'.2.trans ht)
  · exact h3 (e'.2.trans ht)

set_option maxHeartbeats 4000000 in
theorem move_any (D base : Nat) (C : List M.Com) (H : List M.Hd) (A : List Int) (s : ByteArray) (n : Int) (w : World) (hD : DeskAt w base D C H A) (hbD : base ≤ w.heap.size) (hk : 0 ≤ M.plc H s) :
    Calls Tryz.prog 45 #[.pointer (some ⟨D, 0, none⟩), .string s, .int .i64 n] w fun e w' => (∃ v, e = .returned v) ∧ DeskAt w' base D C (M.mv H s n) A ∧ Below base w w' ∧ Kt w w' := by
  have hlt := hD.lt
  have HP0 := dplace_any D base C H A s w.drew (hD.later ((Below.refl _ _).drew))
  have hpl := M.plc_lt H s
  obtain ⟨k, hke⟩ : ∃ k : Nat, M.plc H s = (k : Int) := ⟨(M.plc H s).toNat, by omega⟩
  have hkl : k < H.length := by omega
  rw [hke] at HP0
  have hmv : M.mv H s n = H.set k ((H.getD k M.hd0).1, n) := by unfold M.mv; rw [hke]; rfl
  rw [hmv]
  obtain ⟨x, y, z, h1, h2, h3, h4, h5⟩ := hD
  obtain ⟨g, cap, rfl⟩ : ∃ g cap, y = .slice (some ⟨g, 0, none⟩) H.length cap := by
    rcases h4.1.2 with ⟨e, e2⟩ | ⟨g, cap, _, e, _⟩
    · omega
    · exact ⟨g, cap, e⟩
  have hg : base ≤ g := (DeskAt.moved n h1 h2 h3 h4 h5 hkl).2.2
  have k1 : w.cell? ⟨D, 1, none⟩ = some (.slice (some ⟨g, 0, none⟩) H.length cap) := by rw [cell_of_row _ _ _ _ _ _ h1]; rfl
  have HP : Hid (Calls Tryz.prog 75 #[.pointer (some ⟨D, 0, none⟩), .string s] w.drew fun e w' => e = .returned (.int .i64 (k : Int)) ∧ Below w.heap.size w.drew w') := HP0
  have HAf : Hid (∀ w4, Below w.heap.size w.drew w4 → Kt w (w4.setCell ⟨g, k * 2 + 1, none⟩ (.int .i64 n)) ∧ DeskAt (w4.setCell ⟨g, k * 2 + 1, none⟩ (.int .i64 n)) base D C (H.set k ((H.getD k M.hd0).1, n)) A ∧ w4.frozen? ⟨g, k * 2 + 1, none⟩ = false ∧ w4.cell? ⟨D, 1, none⟩ = some (.slice (some ⟨g, 0, none⟩) H.length cap) ∧ ∃ u, w4.cell? ⟨g, k * 2 + 1, none⟩ = some u) := fun w4 hb => by
    have hb' : Below w.heap.size w w4 := ((Below.refl _ _).drew).trans hb
    have e1 := (hb'.block D hlt).trans h1
    have o4 := h4.later hb'
    obtain ⟨m1, m2, _⟩ := DeskAt.moved n e1 h2 (h3.later hb') o4 (ownsRow_later h5 hb') hkl
    refine ⟨(Kt.of hb').trans (Kt.grown (grownBy_set w4 ⟨g, k * 2 + 1, none⟩ _) fun r er => ?_), m1, m2, by rw [cell_of_row _ _ _ _ _ _ e1]; rfl, .int .i64 (H.getD k M.hd0).2, ?_⟩
    · cases er
      rcases o4.1.2 with ⟨e, _⟩ | ⟨g', _, cur, e, _, hh, _⟩
      · simp at e
      · simp only [Value.slice.injEq, Option.some.injEq, Addr.mk.injEq] at e
        obtain ⟨⟨rfl, _⟩, _⟩ := e
        exact ⟨cur, _, hh, Or.inr (Or.inl rfl)⟩
    · rw [World.ownsRow.cellAt o4.1 (k * 2 + 1) (by omega), encH_at H k hkl]
  have hki : (k : Int) < (H.length : Int) := by omega
  clear HP0 hke hmv h1 h3 h4 h5 hpl hk
  go_enter Tryz.func45, Tryz.ntmps45
  go_wp2_with fail
  refine wp_region_till 11 (fun V => V.cell? ⟨D, 1, none⟩ = some (.slice (some ⟨g, 0, none⟩) H.length cap)) (by kernel_rfl) k1 (fun hHeld => ?_)
  refine till_go 0 (v := .pointer (some ⟨D, 0, none⟩)) rfl (by decide) (by kernel_rfl) (by kernel_rfl) (by kernel_rfl) (fun _ _ _ h => h) (Or.inl ⟨by rfl, fun V _ => (by go_simp)⟩) hHeld ?_
  try simp only [Act.put]
  refine till_go 1 (v := .pointer (some ⟨D, 0, none⟩)) rfl (by decide) (by kernel_rfl) (by kernel_rfl) (by kernel_rfl) (fun _ _ _ h => h) (Or.inl ⟨by rfl, fun V _ => (by go_simp)⟩) hHeld ?_
  try simp only [Act.put]
  refine till_go 2 (v := .pointer (some ⟨D, 0, none⟩)) rfl (by decide) (by kernel_rfl) (by kernel_rfl) (by kernel_rfl) (fun _ _ _ h => h) (Or.inl ⟨by rfl, fun V _ => (by go_simp)⟩) hHeld ?_
  try simp only [Act.put]
  refine till_go 3 (v := .pointer (some ⟨D, 1, none⟩)) rfl (by decide) (by kernel_rfl) (by kernel_rfl) (by kernel_rfl) (fun _ _ _ h => h) (Or.inl ⟨by rfl, fun V _ => (by go_simp)⟩) hHeld ?_
  try simp only [Act.put]
  refine till_take 4 (v := .slice (some ⟨g, 0, none⟩) H.length cap) rfl (by decide) (by kernel_rfl) (by kernel_rfl) (by kernel_rfl) (by kernel_rfl) (by kernel_rfl) (fun _ _ _ h => h) (Or.inl ⟨by rfl, fun V hV => (by have v0 := hV; go_simp)⟩) hHeld ?_
  try simp only [Act.put]
  refine till_go 5 (v := .pointer (some ⟨D, 0, none⟩)) rfl (by decide) (by kernel_rfl) (by kernel_rfl) (by kernel_rfl) (fun _ _ _ h => h) (Or.inl ⟨by rfl, fun V _ => (by go_simp)⟩) hHeld ?_
  try simp only [Act.put]
  refine till_go 6 (v := .string s) rfl (by decide) (by kernel_rfl) (by kernel_rfl) (by kernel_rfl) (fun _ _ _ h => h) (Or.inl ⟨by rfl, fun V _ => (by go_simp)⟩) hHeld ?_
  try simp only [Act.put]
  refine till_go 8 (v := .int .i64 n) rfl (by decide) (by kernel_rfl) (by kernel_rfl) (by kernel_rfl) (fun _ _ _ h => h) (Or.inl ⟨by rfl, fun V _ => (by go_simp)⟩) hHeld ?_
  try simp only [Act.put]
  refine till_step 7 rfl (by decide) (by kernel_rfl) (fun K hK => ?_)
  go_simp
  go_wp2_with (go_at_call 75; refine HP.out.mono ?_; rintro e w4 ⟨rfl, hb4⟩)
  obtain ⟨P0, P1, P2, P3, u4, P4⟩ := HAf.out w4 hb4
  have HKt : Hid (Kt w (w4.setCell ⟨g, k * 2 + 1, none⟩ (.int .i64 n))) := P0
  have HDD : Hid (DeskAt (w4.setCell ⟨g, k * 2 + 1, none⟩ (.int .i64 n)) base D C (H.set k ((H.getD k M.hd0).1, n)) A) := P1
  have hbb : Below base w (w4.setCell ⟨g, k * 2 + 1, none⟩ (.int .i64 n)) := (((Below.refl _ _).drew).trans (hb4.mono hbD)).setCell (p := ⟨g, k * 2 + 1, none⟩) hg _
  have hAnew : Hid (w4.cell? ⟨D, 1, none⟩ = some (.slice (some ⟨g, 0, none⟩) H.length cap)) := P3
  clear P0 P1 P3 hb4
  refine hK.out _ _ hAnew.out (fun hHeld => ?_)
  clear hK K
  refine till_go 9 (v := .pointer (some ⟨g, k * 2, none⟩)) rfl (by decide) (by kernel_rfl) (by kernel_rfl) (by kernel_rfl) (fun _ _ _ h => h) (Or.inl ⟨by rfl, fun V _ => (by go_simp)⟩) hHeld ?_
  try simp only [Act.put]
  refine till_go 10 (v := .pointer (some ⟨g, k * 2 + 1, none⟩)) rfl (by decide) (by kernel_rfl) (by kernel_rfl) (by kernel_rfl) (fun _ _ _ h => h) (Or.inl ⟨by rfl, fun V _ => (by go_simp)⟩) hHeld ?_
  try simp only [Act.put]
  refine till_last rfl (by kernel_rfl) (by kernel_rfl) (fun K hK => ?_) _
  go_simp
  refine hK.out _ _ ?_
  clear hK K
  clear hAnew
  go_wp2
  go_end0
  exact ⟨⟨_, rfl⟩, HDD.out, hbb, HKt.out⟩

theorem DeskAt.put {w w' : World} {base D : Nat} {x x' y z : Value} {C : List M.Com} {c : M.Com} {q : Value × Value} {H : List M.Hd} {A : List Int} {vals : List (Value × Value)} (h1 : w.heap[D]? = some (.cells #[x, y, z] 82 (0, 0))) (hbD : base ≤ D) (hl : vals.length = C.length) (hrow : w.ownsRow base 51 2 x C.length (encP vals)) (hel : ∀ i, i < C.length → OwnCo w base (vals.getD i vp0) (C.getD i ([], [])))
    (hy : OwnH w base y H) (hz : OwnI w base z A) (hq : OwnCo w base q c) (tmp : Obj) (h3 : w'.ownsRow base 51 2 x' (C.length + 1) (encP vals ++ [q.1, q.2])) (hg : (w.alloc tmp).grownBy w' x.ownBlock) (hbw : base ≤ w.heap.size) :
    DeskAt (w'.setCell ⟨D, 0, none⟩ x') base D (C ++ [c]) H A ∧ w'.heap[D]? = some (.cells #[x, y, z] 82 (0, 0)) ∧ Below base w (w'.setCell ⟨D, 0, none⟩ x') ∧ Kt w (w'.setCell ⟨D, 0, none⟩ x') := by
  have hlt := (Array.getElem?_eq_some_iff.1 h1).1
  have typ : ∀ r, x.ownBlock = some r → ∃ cur, (w.alloc tmp).heap[r]? = some (.cells cur 51 (0, 0)) := by
    intro r e
    rcases (hrow.alloc tmp).2 with ⟨rfl, _⟩ | ⟨g, cap, cur', rfl, _, hgb, _⟩
    · simp [Value.ownBlock] at e
    · obtain rfl : g = r := by simpa [Value.ownBlock] using e
      exact ⟨_, hgb⟩
  have other : ∀ e, e ≠ 51 → ∀ r, x.ownBlock = some r → ∀ cur, (w.alloc tmp).heap[r]? ≠ some (.cells cur e (0, 0)) := by
    intro e he r hr cur hc
    obtain ⟨cur', hcur⟩ := typ r hr
    rw [hcur] at hc
    simp at hc
    exact he hc.2.symm
  have hDa : (w.alloc tmp).heap[D]? = some (.cells #[x, y, z] 82 (0, 0)) := by rw [Below.heap_alloc _ _ _ hlt]; exact h1
  have hne : x.ownBlock ≠ some D := fun e => other _ (by decide) D e _ hDa
  have hbk : w'.heap[D]? = some (.cells #[x, y, z] 82 (0, 0)) := by
    rw [hg.block D (by simp; omega) (fun e => hne e.symm)]; exact hDa
  have b1 : Below base w w' := ((Below.refl _ _).alloc hbw tmp).grown hg (by simp; omega) (fun k e => by
    have := (World.ownsRow.lt hrow k e).1; omega)
  have hba : Below w.heap.size w (w.alloc tmp) := (Below.refl _ _).alloc (Nat.le_refl _) _
  have K' : OwnK w' base x' (C ++ [c]) := OwnK.append hl (hrow.alloc tmp) (fun i hi => (hel i hi).later hba) (hq.later hba) h3 hg
  have g2 := grownBy_set w' ⟨D, 0, none⟩ x'
  refine ⟨⟨x', y, z, ?_, hbD, K'.elsewhere g2 hbk (by decide) (by decide) (by decide), OwnH.elsewhere ⟨ownsRow_elsewhere (hy.later hba).1 hg (other _ (by decide)), hy.2⟩ g2 hbk (by decide), ?_⟩, hbk, b1.setCell (p := ⟨D, 0, none⟩) hbD _, ((Kt.of hba).trans (Kt.grown hg fun r er => ?_)).trans (Kt.grown g2 fun r er => ?_)⟩
  · rw [heap_setCell_same _ _ _ _ _ _ hbk]; rfl
  · refine ownsRow_elsewhere (ownsRow_elsewhere (ownsRow_later hz hba) hg (other _ (by decide))) g2 fun r e cur he => ?_
    cases e
    rw [show w'.heap[D]? = _ from hbk] at he
    simp at he
  · obtain ⟨cur, hc⟩ := typ r er
    exact ⟨cur, _, hc, Or.inr (Or.inr rfl)⟩
  · cases er
    exact ⟨_, _, hbk, Or.inl rfl⟩

set_option maxHeartbeats 4000000 in
theorem commit_any (D base : Nat) (C : List M.Com) (H : List M.Hd) (A : List Int) (s : ByteArray) (ra pa : Option Addr) (rn rc pn pc : Nat) (c : M.Com) (w : World) (hD : DeskAt w base D C H A) (hbD : base ≤ w.heap.size) (hq : OwnCo w base (.slice ra rn rc, .slice pa pn pc) c) (hk : 0 ≤ M.plc H s) (hC : C.length ≤ 1000) :
    Calls Tryz.prog 49 #[.pointer (some ⟨D, 0, none⟩), .string s, .slice ra rn rc, .slice pa pn pc] w fun e w' => (∃ v, e = .returned v) ∧ DeskAt w' base D (C ++ [c]) (M.mv H s C.length) A ∧ Below base w w' ∧ Kt w w' := by
  obtain ⟨i1, hi1, hy0, hy1, hy2⟩ := info_parts infoCommit
  have hlt := hD.lt
  obtain ⟨x, y, z, h1, h2, h3, h4, h5⟩ := hD
  obtain ⟨xa, xc, rfl, _⟩ := h3.cm
  have k0 : w.cell? ⟨D, 0, none⟩ = some (.slice xa C.length xc) := by rw [cell_of_row _ _ _ _ _ _ h1]; rfl
  obtain ⟨vals, hl, hrow, hel⟩ := h3
  have HRA : Hid ((w.alloc (.cells #[.slice ra rn rc, .slice pa pn pc] 51)).ownsRow base 51 2 (.slice xa C.length xc) C.length (encP vals)) := hrow.alloc _
  have HPut : Hid (∀ x' w', w'.ownsRow base 51 2 x' (C.length + 1) (encP vals ++ [.slice ra rn rc, .slice pa pn pc]) → (w.alloc (.cells #[.slice ra rn rc, .slice pa pn pc] 51)).grownBy w' (Value.slice xa C.length xc).ownBlock → DeskAt (w'.setCell ⟨D, 0, none⟩ x') base D (C ++ [c]) H A ∧ w'.heap[D]? = some (.cells #[.slice xa C.length xc, y, z] 82 (0, 0)) ∧ Below base w (w'.setCell ⟨D, 0, none⟩ x') ∧ Kt w (w'.setCell ⟨D, 0, none⟩ x')) := fun x' w' h6 h7 => DeskAt.put h1 h2 hl hrow hel h4 h5 hq _ h6 h7 hbD
  obtain ⟨m, hm⟩ : ∃ m, m = C.length := ⟨_, rfl⟩
  rw [← hm] at HRA HPut hC k0 ⊢
  have HM : Aside (m = C.length) := hm
  clear h1 h4 h5 hl hrow hel hq hm
  go_enter Tryz.func49, Tryz.ntmps49
  go_wp2_with (at_builtin; refine wpList_append_own _ rfl _ _ 22 rfl base 51 i1 (.agg #[.slice none 0 0, .slice none 0 0]) 2 48 Tryz.underlying22 hi1 hy0 hy1 hy2 rfl (by decide) _ m (encP vals) rfl HRA.out ⟨w.heap.size, 0, none⟩ 1 1 [.slice ra rn rc, .slice pa pn pc] rfl rfl (cell_pair_new _ _ _ _) (by simp [Value.oneCell']) (by simp only [maxLen]; omega) (by omega) (by simp; omega) ?_)
  intro v' w1 h6 h7 _
  obtain ⟨g', cap', rfl⟩ := ownsRow_succ h6
  obtain ⟨P1, P2, P3, P4⟩ := HPut.out _ w1 h6 h7
  have k1 : w1.cell? ⟨D, 0, none⟩ = some (.slice xa m xc) := by rw [cell_of_row _ _ _ _ _ _ P2]; rfl
  have f1 : w1.frozen? ⟨D, 0, none⟩ = false := frozen_of_row _ _ _ _ _ P2
  have hD1 : D < w1.heap.size := (Array.getElem?_eq_some_iff.1 P2).1
  obtain ⟨W2, hW2⟩ : ∃ W2, W2 = w1.setCell ⟨D, 0, none⟩ (.slice (some ⟨g', 0, none⟩) (m + 1) cap') := ⟨_, rfl⟩
  rw [← hW2] at P1 P3 P4
  have HW2 : Hid (W2 = w1.setCell ⟨D, 0, none⟩ (.slice (some ⟨g', 0, none⟩) (m + 1) cap')) := hW2
  have K := move_any D base (C ++ [c]) H A s (m : Int) W2 P1 (Nat.le_trans hbD P3.size) hk
  have KK : Hid (Calls Tryz.prog 45 #[.pointer (some ⟨D, 0, none⟩), .string s, .int .i64 (m : Int)] W2 fun e w' => (∃ v, e = .returned v) ∧ DeskAt w' base D (C ++ [c]) (M.mv H s m) A ∧ Below base W2 w' ∧ Kt W2 w') := K
  have hmw : IntKind.i64.wrap (((m + 1 : Nat) : Int) - 1) = (m : Int) := by rw [IntKind.wrap_i64]; omega
  have hP3 : Below base w W2 := P3
  have HK4 : Hid (Kt w W2) := P4
  clear K P1 P2 P3 P4 h6 h7 hW2 HRA HPut
  go_wp2_with fail
  rw [← HW2.out]
  refine KK.out.mono ?_
  rintro e w3 ⟨⟨v, rfl⟩, hd, hb, hkt⟩
  have HK5 : Hid (Kt w w3) := HK4.out.trans hkt
  have HD3 : Aside (DeskAt w3 base D (C ++ [c]) (M.mv H s m) A) := hd
  have hb3 := hP3.trans hb
  clear hd hb hkt
  go_wp2
  go_end0
  exact ⟨⟨_, rfl⟩, HD3.out, hb3, HK5.out⟩
end Go.Proofs.YtcgpgflnihjpiafGreat

/- work.firstOf. -/
namespace Go.Proofs.YtcgpgflnihjpiafGreat
open Go.RowKit Go.Shelf

/-- What may not be: its error, the function that asks it, what that one holds, and whether it is. -/
structure Bar where
  err : Int
  fn : Nat
  cs : List Value
  is : Bool
def bar0 : Bar := ⟨0, 0, [], false⟩
/-- The error of the first one that is. -/
def firstE : List Bar → Int
  | [] => 0
  | b :: t => if b.is = true then b.err else firstE t
theorem firstE_yes (l : List Bar) (k : Nat) (h : k < l.length) (b : Bar) (e : l.getD k bar0 = b) (hb : b.is = true) : firstE (l.drop k) = b.err := by
  rw [List.drop_eq_getElem_cons h, show l[k] = b by rw [← e]; simp [List.getD, h], firstE, if_pos hb]
theorem firstE_no (l : List Bar) (k : Nat) (h : k < l.length) (b : Bar) (e : l.getD k bar0 = b) (hb : b.is = false) : firstE (l.drop k) = firstE (l.drop (k + 1)) := by
  rw [List.drop_eq_getElem_cons h, show l[k] = b by rw [← e]; simp [List.getD, h], firstE, if_neg (by rw [hb]; simp)]
theorem firstE_end (l : List Bar) (k : Nat) (h : l.length ≤ k) : firstE (l.drop k) = 0 := by
  rw [List.drop_eq_nil_of_le h]; rfl

set_option maxHeartbeats 2000000 in
theorem firstOf_any (bb n : Nat) (l : List Bar) (w : World) (hl : l.length = n) (hn : n ≤ 1000) (hB : bb < w.heap.size)
    (hc : ∀ i, i < n → w.cell? ⟨bb, i * 2, none⟩ = some (.int .i64 (l.getD i bar0).err) ∧ w.cell? ⟨bb, i * 2 + 1, none⟩ = some (.func (.func (l.getD i bar0).fn) #[] (l.getD i bar0).cs.toArray))
    (hf : ∀ b ∈ l, (∀ args w, (callFunc b.fn args).run Tryz.prog w = .ok (.enter b.fn args) w) ∧ ∀ W, Below w.heap.size w W → Calls Tryz.prog b.fn b.cs.toArray W fun e w' => e = .returned (.bool b.is) ∧ Below W.heap.size W w') :
    Calls Tryz.prog 42 #[.slice (some ⟨bb, 0, none⟩) n n] w fun e w' => e = .returned (.int .i64 (firstE l)) ∧ Below w.heap.size w w' := by
  have HC : Aside (∀ i, i < n → w.cell? ⟨bb, i * 2, none⟩ = some (.int .i64 (l.getD i bar0).err) ∧ w.cell? ⟨bb, i * 2 + 1, none⟩ = some (.func (.func (l.getD i bar0).fn) #[] (l.getD i bar0).cs.toArray)) := hc
  have HF : Aside (∀ b ∈ l, (∀ args w, (callFunc b.fn args).run Tryz.prog w = .ok (.enter b.fn args) w) ∧ ∀ W, Below w.heap.size w W → Calls Tryz.prog b.fn b.cs.toArray W fun e w' => e = .returned (.bool b.is) ∧ Below W.heap.size W w') := hf
  have HL : Aside (l.length = n) := hl
  clear hc hl hf
  go_enter Tryz.func42, Tryz.ntmps42
  go_wp2
  go_loopg [7] n (fun g i wr => ∃ (k : Nat), k + g = n ∧ i = .int .i64 k ∧ Below w.heap.size w wr ∧ Aside (firstE (l.drop k) = firstE l))
  case atStart => exact ⟨0, by omega, rfl, Below.refl _ _, by simp [Aside]⟩
  case round =>
    obtain ⟨k, hk, rfl, hbel, A⟩ := hrel
    have hsz := hbel.size
    by_cases hlt : k < n
    · obtain ⟨b, hb⟩ : ∃ b, l.getD k bar0 = b := ⟨_, rfl⟩
      obtain ⟨q0, q1⟩ := HC.out k hlt
      rw [hb] at q0 q1
      have c0 : wr.cell? ⟨bb, k * 2, none⟩ = some (.int .i64 b.err) := (hbel.cell (p := ⟨bb, k * 2, none⟩) hB).trans q0
      have c1 : wr.cell? ⟨bb, k * 2 + 1, none⟩ = some (.func (.func b.fn) #[] b.cs.toArray) := (hbel.cell (p := ⟨bb, k * 2 + 1, none⟩) hB).trans q1
      have hmem : b ∈ l := by rw [← hb]; have := HL.out; simp [List.getD, this, hlt]
      obtain ⟨eg, hcall⟩ := HF.out b hmem
      obtain ⟨Wb, hWb⟩ : ∃ Wb, Wb = wr.alloc (.cells #[.int .i64 b.err, .func (.func b.fn) #[] b.cs.toArray] 86) := ⟨_, rfl⟩
      have hbb : Below w.heap.size w Wb := by rw [hWb]; exact hbel.alloc hsz _
      have e0 : Wb.cell? ⟨wr.heap.size, 0, none⟩ = some (.int .i64 b.err) := by rw [hWb]; simp [go_sem]
      have hbl : wr.heap.size < Wb.heap.size := by rw [hWb]; simp
      obtain ⟨t, ht⟩ : ∃ t, b.is = t := ⟨_, rfl⟩
      have hcall := hcall Wb hbb
      rw [ht] at hcall
      have LH : Hid (Calls Tryz.prog b.fn b.cs.toArray Wb fun e w' => e = .returned (.bool t) ∧ Below Wb.heap.size Wb w') := hcall
      have HX : Aside (l.getD k bar0 = b) := hb
      have HT : Aside (b.is = t) := ht
      have HWb : Hid (Wb = wr.alloc (.cells #[.int .i64 b.err, .func (.func b.fn) #[] b.cs.toArray] 86)) := hWb
      have hki : (k : Int) < (n : Int) := by omega
      clear q0 q1 hb hmem ht hcall hWb
      cases t with
      | true =>
        go_wp2_with fail
        rw [← HWb.out]
        refine LH.out.mono ?_
        rintro e w1 ⟨rfl, hb1⟩
        have e1 : w1.cell? ⟨wr.heap.size, 0, none⟩ = some (.int .i64 b.err) := (hb1.cell (p := ⟨wr.heap.size, 0, none⟩) hbl).trans e0
        have hb2 := hbb.trans (hb1.mono hbb.size)
        go_wp2
        go_ret
        exact ⟨ret_int (by rw [← A.out, firstE_yes l k (by rw [HL.out]; exact hlt) b HX.out HT.out]), hb2⟩
      | false =>
        go_wp2_with fail
        rw [← HWb.out]
        refine LH.out.mono ?_
        rintro e w1 ⟨rfl, hb1⟩
        have hb2 := hbb.trans (hb1.mono hbb.size)
        go_wp2
        go_roundg (gk - 1)
        case measure => omega
        case rel => exact ⟨k + 1, by omega, by go_num, hb2, by unfold Aside; rw [← A.out, firstE_no l k (by rw [HL.out]; exact hlt) b HX.out HT.out]⟩
    · go_wp2
      go_ret
      exact ⟨ret_int (by rw [← A.out, firstE_end l k (by rw [HL.out]; omega)]), hbel⟩
end Go.Proofs.YtcgpgflnihjpiafGreat

/- The reference's small functions: within, isKey, RowsError, valueOf, FindOf. -/
namespace Go.Proofs.YtcgpgflnihjpiafGreat
open Go.RowKit

theorem within_yes (x lo hi : Int) (w : World) (h1 : lo ≤ x) (h2 : x ≤ hi) :
    Calls Tryz.prog 64 #[.int .i64 x, .int .i64 lo, .int .i64 hi] w fun e w' => e = .returned (.bool true) ∧ w' = w := by
  go_enter Tryz.func64, Tryz.ntmps64
  go_wp2
  go_ret
  exact ⟨rfl, rfl⟩
theorem within_no (x lo hi : Int) (w : World) (h : x < lo ∨ hi < x) :
    Calls Tryz.prog 64 #[.int .i64 x, .int .i64 lo, .int .i64 hi] w fun e w' => e = .returned (.bool false) ∧ w' = w := by
  by_cases h1 : lo ≤ x
  · have h2 : hi < x := by omega
    have hd : decide (x ≤ hi) = false := by simp; omega
    clear h
    go_enter Tryz.func64, Tryz.ntmps64
    go_wp2
    go_ret
    exact ⟨rfl, rfl⟩
  · have h2 : x < lo := by omega
    clear h h1
    go_enter Tryz.func64, Tryz.ntmps64
    go_wp2
    go_ret
    exact ⟨rfl, rfl⟩
theorem isKey_yes (x : Int) (w : World) (h1 : 0 ≤ x) (h2 : x ≤ 99) :
    Calls Tryz.prog 125 #[.int .i64 x] w fun e w' => e = .returned (.bool true) ∧ w' = w := by
  go_enter Tryz.func125, Tryz.ntmps125
  go_wp2_with (go_at_call 64; refine (within_yes _ _ _ _ h1 h2).mono ?_; rintro e w' ⟨rfl, rfl⟩)
  go_ret
  exact ⟨rfl, rfl⟩
theorem isKey_no (x : Int) (w : World) (h : x < 0 ∨ 99 < x) :
    Calls Tryz.prog 125 #[.int .i64 x] w fun e w' => e = .returned (.bool false) ∧ w' = w := by
  have H : Hid (x < 0 ∨ 99 < x) := h
  clear h
  go_enter Tryz.func125, Tryz.ntmps125
  go_wp2_with (go_at_call 64; refine (within_no _ _ _ _ H.out).mono ?_; rintro e w' ⟨rfl, rfl⟩)
  go_ret
  exact ⟨rfl, rfl⟩

theorem error_many (a : Option Addr) (n cap : Nat) (w : World) (h : 40 < n) (hm : n ≤ 9223372036854775807) :
    Calls Tryz.prog 126 #[.slice a n cap] w fun e w' => e = .returned (.int .i64 2) ∧ w' = w := by
  go_enter Tryz.func126, Tryz.ntmps126
  go_wp2
  go_ret
  exact ⟨rfl, rfl⟩

theorem error_none (a : Option Addr) (cap : Nat) (w : World) :
    Calls Tryz.prog 126 #[.slice a 0 cap] w fun e w' => e = .returned (.int .i64 0) ∧ w' = w := by
  go_enter Tryz.func126, Tryz.ntmps126
  go_wp2
  refine wp_loop_rounds 1 ?_
  rw [rounds_succ]
  go_wp2
  go_ret
  exact ⟨rfl, rfl⟩

set_option maxHeartbeats 2000000 in
theorem error_some (b off n cap : Nat) (l : List (Int × Int)) (w : World) (hn : n ≤ 40) (hl : l.length = n) (hB : b < w.heap.size)
    (hc : ∀ i, i < n → w.cell? ⟨b, off + i * 2, none⟩ = some (.int .i64 (l.getD i (0, 0)).1) ∧ w.cell? ⟨b, off + i * 2 + 1, none⟩ = some (.int .i64 (l.getD i (0, 0)).2)) :
    Calls Tryz.prog 126 #[.slice (some ⟨b, off, none⟩) n cap] w fun e w' => e = .returned (.int .i64 (M.chkFrom (-1) l)) ∧ Below w.heap.size w w' := by
  have HC : Aside (∀ i, i < n → w.cell? ⟨b, off + i * 2, none⟩ = some (.int .i64 (l.getD i (0, 0)).1) ∧ w.cell? ⟨b, off + i * 2 + 1, none⟩ = some (.int .i64 (l.getD i (0, 0)).2)) := hc
  have HL : Aside (l.length = n) := hl
  clear hc hl
  go_enter Tryz.func126, Tryz.ntmps126
  go_wp2
  go_loopg [3] n (fun g i wr => ∃ (k : Nat) (q : Int), k + g = n ∧ -1 ≤ q ∧ i = .int .i64 k ∧ Below w.heap.size w wr ∧ Aside (q = M.prev l k) ∧ Aside (M.chkFrom q (l.drop k) = M.chkFrom (-1) l))
  case atStart => exact ⟨0, -1, by omega, by omega, rfl, Below.refl _ _, rfl, by simp [Aside]⟩
  case round =>
    obtain ⟨k, q, hk, hq1, rfl, hbel, A, A2⟩ := hrel
    have hsz := hbel.size
    by_cases hlt : k < n
    · obtain ⟨x, y, hxy⟩ : ∃ x y, l.getD k (0, 0) = (x, y) := ⟨_, _, rfl⟩
      have c0 : wr.cell? ⟨b, off + k * 2, none⟩ = some (.int .i64 x) := by rw [hbel.cell (p := ⟨b, off + k * 2, none⟩) hB, (HC.out k hlt).1, hxy]
      have c1 : wr.cell? ⟨b, off + k * 2 + 1, none⟩ = some (.int .i64 y) := by rw [hbel.cell (p := ⟨b, off + k * 2 + 1, none⟩) hB, (HC.out k hlt).2, hxy]
      have HXY : Aside (l.getD k (0, 0) = (x, y)) := hxy
      clear hxy
      have hki : (k : Int) < (n : Int) := by omega
      by_cases g1 : 0 ≤ x ∧ x ≤ 99
      · obtain ⟨g1, g2⟩ := g1
        by_cases g3 : 0 ≤ y ∧ y ≤ 996
        · obtain ⟨g3, g4⟩ := g3
          by_cases h0 : k = 0
          · have hg : decide (0 < k) = false := by simp; omega
            have H0 : Hid (k = 0) := h0
            clear h0
            go_wp2_with fail
            go_quiet ((first | (go_at_call 125; exact Calls.quiet_of_same (isKey_yes _ _ g1 g2)) | (go_at_call 64; exact Calls.quiet_of_same (within_yes _ _ _ _ g3 g4))))
            go_wp2
            go_roundg (gk - 1)
            case measure => omega
            case rel => exact ⟨k + 1, x, by omega, by omega, by go_num, below_drewN hbel _, by show x = (l.getD _ (0, 0)).1; rw [HXY.out], by unfold Aside; rw [← A2.out, M.chkFrom_good q l k (by rw [HL.out]; exact hlt) x y HXY.out (by have e := A.out; rw [H0.out] at e; have : q = -1 := e; omega) (by omega) (by omega) (by omega)]⟩
          · obtain ⟨j, rfl⟩ : ∃ j, k = j + 1 := ⟨k - 1, by omega⟩
            have cj : wr.cell? ⟨b, off + j * 2, none⟩ = some (.int .i64 (l.getD j (0, 0)).1) := by rw [hbel.cell (p := ⟨b, off + j * 2, none⟩) hB, (HC.out j (by omega)).1]
            obtain ⟨z, hz⟩ : ∃ z, z = (l.getD j (0, 0)).1 := ⟨_, rfl⟩
            rw [← hz] at cj
            have HZ : Hid (z = (l.getD j (0, 0)).1) := hz
            clear hz h0
            by_cases h5 : x ≤ z
            · go_wp2_with fail
              go_quiet ((first | (go_at_call 125; exact Calls.quiet_of_same (isKey_yes _ _ g1 g2)) | (go_at_call 64; exact Calls.quiet_of_same (within_yes _ _ _ _ g3 g4))))
              go_wp2
              go_ret
              exact ⟨ret_int (A2.out.symm.trans (M.chkFrom_bad q l (j + 1) (by rw [HL.out]; exact hlt) x y HXY.out (by have e := A.out; have : q = z := e.trans HZ.out.symm; omega))).symm, below_drewN hbel _⟩
            · have hg : decide (x ≤ z) = false := by simp; omega
              go_wp2_with fail
              go_quiet ((first | (go_at_call 125; exact Calls.quiet_of_same (isKey_yes _ _ g1 g2)) | (go_at_call 64; exact Calls.quiet_of_same (within_yes _ _ _ _ g3 g4))))
              go_wp2
              go_roundg (gk - 1)
              case measure => omega
              case rel => exact ⟨j + 1 + 1, x, by omega, by omega, by go_num, below_drewN hbel _, by show x = (l.getD _ (0, 0)).1; rw [HXY.out], by unfold Aside; rw [← A2.out, M.chkFrom_good q l (j + 1) (by rw [HL.out]; exact hlt) x y HXY.out (by have e := A.out; have : q = z := e.trans HZ.out.symm; omega) (by omega) (by omega) (by omega)]⟩
        · have g3' : y < 0 ∨ 996 < y := by omega
          have G : Hid (y < 0 ∨ 996 < y) := g3'
          clear g3 g3'
          go_wp2_with fail
          go_quiet ((first | (go_at_call 125; exact Calls.quiet_of_same (isKey_yes _ _ g1 g2)) | (go_at_call 64; exact Calls.quiet_of_same (within_no _ _ _ _ G.out))))
          go_wp2
          go_ret
          exact ⟨ret_int (A2.out.symm.trans (M.chkFrom_bad q l k (by rw [HL.out]; exact hlt) x y HXY.out (by have := G.out; omega))).symm, below_drewN hbel _⟩
      · have g3' : x < 0 ∨ 99 < x := by omega
        have G : Hid (x < 0 ∨ 99 < x) := g3'
        clear g1 g3'
        go_wp2_with fail
        go_quiet ((go_at_call 125; exact Calls.quiet_of_same (isKey_no _ _ G.out)))
        go_wp2
        go_ret
        exact ⟨ret_int (A2.out.symm.trans (M.chkFrom_bad q l k (by rw [HL.out]; exact hlt) x y HXY.out (by have := G.out; omega))).symm, below_drewN hbel _⟩
    · go_wp2
      go_ret
      exact ⟨ret_int (A2.out.symm.trans (M.chkFrom_end q l k (by rw [HL.out]; omega))).symm, hbel⟩

theorem error_any (a : Option Addr) (n cap : Nat) (l : List (Int × Int)) (w : World) (h : Rd w a n l) (hm : n ≤ 9223372036854775807) :
    Calls Tryz.prog 126 #[.slice a n cap] w fun e w' => e = .returned (.int .i64 (M.chk l)) ∧ Below w.heap.size w w' := by
  by_cases h40 : 40 < n
  · refine (error_many a n cap w h40 hm).mono ?_
    rintro e w' ⟨rfl, rfl⟩
    exact ⟨by rw [M.chk_many l (by rw [h.1]; exact h40)], Below.refl _ _⟩
  · have e := M.chk_few l (by rw [h.1]; omega)
    rcases h.cases with ⟨rfl, rfl⟩ | ⟨b, off, rfl, hn, hl, hB, hc⟩
    · refine (error_none a cap w).mono ?_
      rintro e w' ⟨rfl, rfl⟩
      exact ⟨rfl, Below.refl _ _⟩
    · rw [e]
      exact error_some b off n cap l w (by omega) hl hB hc
end Go.Proofs.YtcgpgflnihjpiafGreat

/- rows.checkAsked, place, sort.Search. -/
namespace Go.Proofs.YtcgpgflnihjpiafGreat
open Go.RowKit


theorem asked_bad (a : Option Addr) (n cap : Nat) (l : List (Int × Int)) (key : Int) (w : World) (h : Rd w a n l) (hm : n ≤ 9223372036854775807) (hb : M.chk l ≠ 0) :
    Calls Tryz.prog 143 #[.slice a n cap, .int .i64 key] w fun e w' => e = .returned (.int .i64 (M.chk l)) ∧ Below w.heap.size w w' := by
  have H := check_any a n cap l w h hm
  obtain ⟨c, hc⟩ : ∃ c, c = M.chk l := ⟨_, rfl⟩
  rw [← hc] at H hb ⊢
  clear hc h
  have hne : (c != 0) = true := by simp [hb]
  clear hb
  have HH : Hid (Calls Tryz.prog 83 #[.slice a n cap] w fun e w' => e = .returned (.int .i64 c) ∧ Below w.heap.size w w') := H
  clear H
  go_enter Tryz.func143, Tryz.ntmps143
  go_wp2_with (go_at_call 83; refine HH.out.mono ?_; rintro e w' ⟨rfl, hb1⟩)
  go_ret
  exact ⟨rfl, hb1⟩

theorem asked_range (a : Option Addr) (n cap : Nat) (l : List (Int × Int)) (key : Int) (w : World) (h : Rd w a n l) (hm : n ≤ 9223372036854775807) (hb : M.chk l = 0) (hk : key < 0 ∨ 99 < key) :
    Calls Tryz.prog 143 #[.slice a n cap, .int .i64 key] w fun e w' => e = .returned (.int .i64 3) ∧ Below w.heap.size w w' := by
  have H := check_any a n cap l w h hm
  rw [hb] at H
  clear hb h
  have HH : Hid (Calls Tryz.prog 83 #[.slice a n cap] w fun e w' => e = .returned (.int .i64 0) ∧ Below w.heap.size w w') := H
  clear H
  rcases hk with hk | hk
  · go_enter Tryz.func143, Tryz.ntmps143
    go_wp2_with (go_at_call 83; refine HH.out.mono ?_; rintro e w' ⟨rfl, hb1⟩)
    go_ret
    exact ⟨rfl, hb1⟩
  · have hk0 : ¬ key < 0 := by omega
    go_enter Tryz.func143, Tryz.ntmps143
    go_wp2_with (go_at_call 83; refine HH.out.mono ?_; rintro e w' ⟨rfl, hb1⟩)
    go_ret
    exact ⟨rfl, hb1⟩

theorem asked_ok (a : Option Addr) (n cap : Nat) (l : List (Int × Int)) (key : Int) (w : World) (h : Rd w a n l) (hm : n ≤ 9223372036854775807) (hb : M.chk l = 0) (hk : 0 ≤ key) (hk2 : key ≤ 99) :
    Calls Tryz.prog 143 #[.slice a n cap, .int .i64 key] w fun e w' => e = .returned (.int .i64 0) ∧ Below w.heap.size w w' := by
  have H := check_any a n cap l w h hm
  rw [hb] at H
  clear hb h
  have HH : Hid (Calls Tryz.prog 83 #[.slice a n cap] w fun e w' => e = .returned (.int .i64 0) ∧ Below w.heap.size w w') := H
  clear H
  go_enter Tryz.func143, Tryz.ntmps143
  go_wp2_with (go_at_call 83; refine HH.out.mono ?_; rintro e w' ⟨rfl, hb1⟩)
  go_ret
  exact ⟨rfl, hb1⟩

/-- The function literal: does the i-th row's key come up to the key? -/
theorem lit_any (b off n cap : Nat) (key x : Int) (p q i : Nat) (w : World) (hi : i < n)
    (hp : w.cell? ⟨p, 0, none⟩ = some (.slice (some ⟨b, off, none⟩) n cap)) (hq : w.cell? ⟨q, 0, none⟩ = some (.int .i64 key))
    (hx : w.cell? ⟨b, off + i * 2, none⟩ = some (.int .i64 x)) :
    Calls Tryz.prog 157 #[.int .i64 i, .pointer (some ⟨p, 0, none⟩), .pointer (some ⟨q, 0, none⟩)] w fun e w' => e = .returned (.bool (decide (key ≤ x))) ∧ ∃ m, w' = w.drewN m := by
  have hki : (i : Int) < (n : Int) := by omega
  go_enter Tryz.func157, Tryz.ntmps157
  go_wp2_with fail
  go_quiet (fail)
  go_wp2
  go_ret
  exact ⟨rfl, _, rfl⟩

set_option maxHeartbeats 1000000 in
theorem search_some (b off n cap : Nat) (l : List (Int × Int)) (key : Int) (p q : Nat) (w : World) (hn : n ≤ 40)
    (hp : w.cell? ⟨p, 0, none⟩ = some (.slice (some ⟨b, off, none⟩) n cap)) (hq : w.cell? ⟨q, 0, none⟩ = some (.int .i64 key))
    (hc : ∀ i, i < n → w.cell? ⟨b, off + i * 2, none⟩ = some (.int .i64 (l.getD i (0, 0)).1))
    (hs : ∀ i j, i ≤ j → j < n → (l.getD i (0, 0)).1 ≤ (l.getD j (0, 0)).1) :
    Calls Tryz.prog 156 #[.int .i64 n, .func (Fn.func 157) #[] #[.pointer (some ⟨p, 0, none⟩), .pointer (some ⟨q, 0, none⟩)]] w
      fun e w' => (∃ k : Nat, e = .returned (.int .i64 k) ∧ k ≤ n ∧ (∀ i, i < k → (l.getD i (0, 0)).1 < key) ∧ (k < n → key ≤ (l.getD k (0, 0)).1)) ∧ ∃ m, w' = w.drewN m := by
  have HC : Aside (∀ i, i < n → w.cell? ⟨b, off + i * 2, none⟩ = some (.int .i64 (l.getD i (0, 0)).1)) := hc
  have HS : Aside (∀ i j, i ≤ j → j < n → (l.getD i (0, 0)).1 ≤ (l.getD j (0, 0)).1) := hs
  have HP : Aside (w.cell? ⟨p, 0, none⟩ = some (.slice (some ⟨b, off, none⟩) n cap)) := hp
  have HQ : Aside (w.cell? ⟨q, 0, none⟩ = some (.int .i64 key)) := hq
  clear hc hs hp hq
  go_enter Tryz.func156, Tryz.ntmps156
  go_wp2
  go_loopg [5, 6] n (fun g vi vj wr => ∃ i j m : Nat, i ≤ j ∧ j ≤ n ∧ j - i ≤ g ∧ vi = .int .i64 i ∧ vj = .int .i64 j ∧ wr = w.drewN m ∧ Aside (∀ t, t < i → (l.getD t (0, 0)).1 < key) ∧ Aside (j < n → key ≤ (l.getD j (0, 0)).1))
  case atStart => exact ⟨0, n, 0, by omega, by omega, by omega, rfl, rfl, rfl, fun t h => by omega, fun h => by omega⟩
  case round =>
    obtain ⟨i, j, m, hij, hj, hg, rfl, rfl, rfl, A, A2⟩ := hrel
    by_cases hlt : i < j
    · obtain ⟨h, hh⟩ : ∃ h : Nat, h = (i + j) / 2 := ⟨_, rfl⟩
      have e1 : ((i : Int) + (j : Int)) / 2 = (h : Int) := by omega
      have h1 : i ≤ h := by omega
      have h2 : h < j := by omega
      clear hh
      have E1 : Hid (((i : Int) + (j : Int)) / 2 = (h : Int)) := e1
      clear e1
      obtain ⟨x, hx⟩ : ∃ x, x = (l.getD h (0, 0)).1 := ⟨_, rfl⟩
      have HX : Aside (x = (l.getD h (0, 0)).1) := hx
      have cx : (w.drewN m).cell? ⟨b, off + h * 2, none⟩ = some (.int .i64 x) := by rw [hx]; exact HC.out h (by omega)
      clear hx
      have cp : (w.drewN m).cell? ⟨p, 0, none⟩ = some (.slice (some ⟨b, off, none⟩) n cap) := HP.out
      have cq : (w.drewN m).cell? ⟨q, 0, none⟩ = some (.int .i64 key) := HQ.out
      have L := lit_any b off n cap key x p q h (w.drewN m) (by omega) cp cq cx
      have LH : Hid (Calls Tryz.prog 157 #[.int .i64 h, .pointer (some ⟨p, 0, none⟩), .pointer (some ⟨q, 0, none⟩)] (w.drewN m) fun e w' => e = .returned (.bool (decide (key ≤ x))) ∧ ∃ m', w' = (w.drewN m).drewN m') := L
      clear L cx cp cq
      by_cases hkx : key ≤ x
      · have hkd : decide (key ≤ x) = true := by simp [hkx]
        go_wp2_with fail
        rw [E1.out]
        refine LH.out.mono ?_
        rintro e w' ⟨rfl, m', rfl⟩
        go_wp2
        go_roundg (h - i)
        case measure => omega
        case rel => exact ⟨i, h, m + m', by omega, by omega, by omega, rfl, by go_num, rfl, A, fun _ => by rw [← HX.out]; exact hkx⟩
      · have hkd : decide (key ≤ x) = false := by simp [hkx]
        go_wp2_with fail
        rw [E1.out]
        refine LH.out.mono ?_
        rintro e w' ⟨rfl, m', rfl⟩
        go_wp2
        go_roundg (j - (h + 1))
        case measure => omega
        case rel => exact ⟨h + 1, j, m + m', by omega, by omega, by omega, by go_num, rfl, rfl, fun t ht => by have := HS.out t h (by omega) (by omega); have := HX.out; omega, A2⟩
    · go_wp2
      go_ret
      have : i = j := by omega
      subst this
      exact ⟨⟨i, rfl, hj, A.out, A2.out⟩, m, rfl⟩

set_option maxHeartbeats 1000000 in
theorem place_some (b off n cap : Nat) (l : List (Int × Int)) (key : Int) (w : World) (hn : n ≤ 40) (hB : b < w.heap.size)
    (hc : ∀ i, i < n → w.cell? ⟨b, off + i * 2, none⟩ = some (.int .i64 (l.getD i (0, 0)).1))
    (hs : ∀ i j, i ≤ j → j < n → (l.getD i (0, 0)).1 ≤ (l.getD j (0, 0)).1) :
    Calls Tryz.prog 144 #[.slice (some ⟨b, off, none⟩) n cap, .int .i64 key] w
      fun e w' => (∃ (k : Nat) (t : Bool), e = .returned (.tuple #[.int .i64 k, .bool t]) ∧ k ≤ n ∧ (∀ i, i < k → (l.getD i (0, 0)).1 < key) ∧ (k < n → key ≤ (l.getD k (0, 0)).1) ∧ (t = true ↔ k < n ∧ (l.getD k (0, 0)).1 = key)) ∧ Below w.heap.size w w' := by
  obtain ⟨W, hW⟩ : ∃ W, W = (w.alloc (.cells #[.slice (some ⟨b, off, none⟩) n cap] 49)).alloc (.cells #[.int .i64 key] 3) := ⟨_, rfl⟩
  have hbW : Below w.heap.size w W := by rw [hW]; exact ((Below.refl _ _).alloc (Nat.le_refl _) _).alloc (by simp) _
  have cW : ∀ i, i < n → W.cell? ⟨b, off + i * 2, none⟩ = some (.int .i64 (l.getD i (0, 0)).1) := fun i hi => (hbW.cell (p := ⟨b, off + i * 2, none⟩) hB).trans (hc i hi)
  have cp : W.cell? ⟨w.heap.size, 0, none⟩ = some (.slice (some ⟨b, off, none⟩) n cap) := by rw [hW]; simp [go_sem]
  have cq : W.cell? ⟨w.heap.size + 1, 0, none⟩ = some (.int .i64 key) := by rw [hW]; simp [go_sem]
  have S := search_some b off n cap l key w.heap.size (w.heap.size + 1) W hn cp cq cW hs
  have SH : Hid (Calls Tryz.prog 156 #[.int .i64 n, .func (Fn.func 157) #[] #[.pointer (some ⟨w.heap.size, 0, none⟩), .pointer (some ⟨w.heap.size + 1, 0, none⟩)]] W
      fun e w' => (∃ k : Nat, e = .returned (.int .i64 k) ∧ k ≤ n ∧ (∀ i, i < k → (l.getD i (0, 0)).1 < key) ∧ (k < n → key ≤ (l.getD k (0, 0)).1)) ∧ ∃ m, w' = W.drewN m) := S
  have HW : Hid (W = (w.alloc (.cells #[.slice (some ⟨b, off, none⟩) n cap] 49)).alloc (.cells #[.int .i64 key] 3)) := hW
  have CW : Hid (∀ i, i < n → W.cell? ⟨b, off + i * 2, none⟩ = some (.int .i64 (l.getD i (0, 0)).1)) := cW
  clear S hW hc hs cW
  go_enter Tryz.func144, Tryz.ntmps144
  go_wp2_with fail
  rw [← HW.out]
  refine SH.out.mono ?_
  rintro e w' ⟨⟨k, rfl, hk, h1, h2⟩, m, rfl⟩
  have H12 : Hid ((∀ i, i < k → (l.getD i (0, 0)).1 < key) ∧ (k < n → key ≤ (l.getD k (0, 0)).1)) := ⟨h1, h2⟩
  clear h1 h2
  have hbm := below_drewN hbW m
  by_cases hkn : k < n
  · obtain ⟨x, hx⟩ : ∃ x, x = (l.getD k (0, 0)).1 := ⟨_, rfl⟩
    have cx : W.cell? ⟨b, off + k * 2, none⟩ = some (.int .i64 x) := by rw [hx]; exact CW.out k hkn
    have HX : Hid (x = (l.getD k (0, 0)).1) := hx
    clear hx
    have hki : (k : Int) < (n : Int) := by omega
    go_wp2_with fail
    go_quiet (fail)
    go_wp2
    go_ret2
    exact ⟨⟨k, (x == key), rfl, hk, H12.out.1, H12.out.2, by rw [← HX.out]; simp [hkn]⟩, below_drewN hbm _⟩
  · have hd : decide (k < n) = false := by simp; omega
    go_wp2_with fail
    go_quiet (fail)
    go_wp2
    go_ret2
    exact ⟨⟨k, false, rfl, hk, H12.out.1, H12.out.2, by simp; omega⟩, below_drewN hbm _⟩

theorem search_none (f : Value) (w : World) :
    Calls Tryz.prog 156 #[.int .i64 0, f] w fun e w' => e = .returned (.int .i64 0) ∧ w' = w := by
  go_enter Tryz.func156, Tryz.ntmps156
  go_wp2
  refine wp_loop_rounds 1 ?_
  rw [rounds_succ]
  go_wp2
  go_ret
  exact ⟨rfl, rfl⟩

theorem place_none (a : Option Addr) (cap : Nat) (key : Int) (w : World) :
    Calls Tryz.prog 144 #[.slice a 0 cap, .int .i64 key] w fun e w' => e = .returned (.tuple #[.int .i64 0, .bool false]) ∧ Below w.heap.size w w' := by
  go_enter Tryz.func144, Tryz.ntmps144
  go_wp2_with fail
  refine (search_none _ _).mono ?_
  rintro e w' ⟨rfl, rfl⟩
  go_wp2_with fail
  go_quiet (fail)
  go_wp2
  go_ret2
  exact ⟨rfl, below_drewN (((Below.refl _ _).alloc (Nat.le_refl _) _).alloc (by simp) _) _⟩

theorem place_any (a : Option Addr) (n cap : Nat) (l : List (Int × Int)) (key : Int) (w : World) (h : Rd w a n l) (h0 : M.chk l = 0) :
    Calls Tryz.prog 144 #[.slice a n cap, .int .i64 key] w
      fun e w' => ∃ (k : Nat) (t : Bool), e = .returned (.tuple #[.int .i64 k, .bool t]) ∧ M.At l key k t ∧ Below w.heap.size w w' := by
  have hz := (M.chk_zero l).1 h0
  rcases h.cases with ⟨rfl, rfl⟩ | ⟨b, off, rfl, hn, hl, hB, hc⟩
  · refine (place_none a cap key w).mono ?_
    rintro e w' ⟨rfl, hb⟩
    exact ⟨0, false, rfl, ⟨by simp, fun i hi => by omega, fun h => by simp at h, by simp⟩, hb⟩
  · refine (place_some b off n cap l key w (by rw [← hl]; exact hz.1) hB (fun i hi => (hc i hi).1) (fun i j hij hj => hz.2.mono i j hij (by omega))).mono ?_
    rintro e w' ⟨⟨k, t, rfl, h1, h2, h3, h4⟩, hb⟩
    exact ⟨k, t, rfl, ⟨by omega, h2, fun h => h3 (by omega), by rw [hl]; exact h4⟩, hb⟩

theorem asked_any (a : Option Addr) (n cap : Nat) (l : List (Int × Int)) (key : Int) (w : World) (h : Rd w a n l) (hm : n ≤ 9223372036854775807) :
    Calls Tryz.prog 143 #[.slice a n cap, .int .i64 key] w fun e w' => e = .returned (.int .i64 (M.asked l key)) ∧ Below w.heap.size w w' := by
  by_cases hb : M.chk l = 0
  · by_cases hk : key < 0 ∨ 99 < key
    · rw [M.asked_range hb hk]; exact asked_range a n cap l key w h hm hb hk
    · rw [M.asked_ok hb (by omega) (by omega)]; exact asked_ok a n cap l key w h hm hb (by omega) (by omega)
  · rw [M.asked_bad hb]; exact asked_bad a n cap l key w h hm hb

end Go.Proofs.YtcgpgflnihjpiafGreat

/- slices.Grow at nil; slices.Concat. -/
namespace Go.Proofs.YtcgpgflnihjpiafGreat
open Go.RowKit

set_option maxHeartbeats 1000000 in
theorem grow_some (n : Nat) (w : World) (h0 : 0 < n) (hn : n ≤ 1000000) :
    Calls Tryz.prog 160 #[.slice none 0 0, .int .i64 n] w fun e w' => ∃ v, e = .returned v ∧ Own w' w.heap.size v [] ∧ Below w.heap.size w w' := by
  obtain ⟨i0, hi, hz0, hz1, hz2⟩ := info_parts infoRow
  have hrz := fun ty => Lib.run_append_nil_zeros (P := Tryz.prog) w 49 3 ty 98 i0 _ .i64 .i64 Tryz.underlying49 Tryz.underlying3 hi hz0 n h0 (by omega) (by omega) (by rw [hz2]; omega)
  have hGn : n ≤ grownCap w n 0 98 := grownCap_ge w _ _ _
  obtain ⟨G, hG⟩ : ∃ G, G = grownCap w n 0 98 := ⟨_, rfl⟩
  have hG63 : G ≤ maxLen := by rw [hG]; exact grownCap_le_maxLen w n 0 98 (by unfold maxLen; omega)
  rw [← hG] at hrz hGn
  obtain ⟨C, hC⟩ : ∃ C, C = Builtin.zeroCells (Value.agg #[.int .i64 0, .int .i64 0]).cells n ++ Builtin.zeroCells (Value.agg #[.int .i64 0, .int .i64 0]).cells (G - n) := ⟨_, rfl⟩
  rw [← hC] at hrz
  have hCs : C.size = G * 2 := by rw [hC]; simp [Builtin.zeroCells, Value.cells]; omega
  have hown := World.ownsRow_made (base := w.heap.size) (e := 98) (size := 2) w.drew C G (Nat.le_refl _) hG63 hCs
  unfold maxLen at hG63
  have HO : Hid ((w.drew.alloc (.cells C 98)).ownsRow w.heap.size 98 2 (.slice (some ⟨w.heap.size, 0, none⟩) 0 G) 0 []) := hown
  have HR : Hid (∀ ty, (Builtin.append_ #[49, 3] ty #[.slice none 0 0, .int .i64 n]).run Tryz.prog w = .ok (.slice (some ⟨w.heap.size, 0, none⟩) n G) (w.drew.alloc (.cells C 98))) := hrz
  clear hC hG hrz hCs hown hi hz0 hz1 hz2
  go_enter Tryz.func160, Tryz.ntmps160
  go_wp2_with (at_builtin; refine Lib.wpList_append_run _ rfl _ _ _ _ rfl _ _ rfl rfl _ _ (HR.out _) ?_)
  go_ret
  exact ⟨_, rfl, HO.out, (Below.refl _ _).drew.alloc (Nat.le_refl _) _⟩

theorem grow_none (w : World) :
    Calls Tryz.prog 160 #[.slice none 0 0, .int .i64 0] w fun e w' => ∃ v, e = .returned v ∧ Own w' w.heap.size v [] ∧ Below w.heap.size w w' := by
  go_enter Tryz.func160, Tryz.ntmps160
  go_wp2
  go_ret
  exact ⟨_, rfl, World.ownsRow_nil _ _ _ _, Below.refl _ _⟩

theorem grow_any (n : Nat) (w : World) (hn : n ≤ 1000000) :
    Calls Tryz.prog 160 #[.slice none 0 0, .int .i64 n] w fun e w' => ∃ v, e = .returned v ∧ Own w' w.heap.size v [] ∧ Below w.heap.size w w' := by
  by_cases h : n = 0
  · subst h; exact grow_none w
  · exact grow_some n w (by omega) hn

/-- Several slices of rows, side by side in memory. -/
def Rds (w : World) (b off k : Nat) (A : Nat → Option Addr) (C : Nat → Nat) (LL : List (List (Int × Int))) : Prop :=
  LL.length = k ∧ b < w.heap.size ∧ ∀ i, i < k → w.cell? ⟨b, off + i, none⟩ = some (.slice (A i) (LL.getD i []).length (C i)) ∧ Rd w (A i) (LL.getD i []).length (LL.getD i []) ∧ (A i = none → (LL.getD i []).length = 0 ∧ C i = 0)

theorem Rds.below {w w' : World} {b off k : Nat} {A : Nat → Option Addr} {C : Nat → Nat} {LL : List (List (Int × Int))} (h : Rds w b off k A C LL) {B : Nat} (hb : Below B w w') (hB : w.heap.size ≤ B) : Rds w' b off k A C LL := by
  obtain ⟨h1, h2, h3⟩ := h
  refine ⟨h1, Nat.lt_of_lt_of_le h2 hb.size, fun i hi => ⟨?_, (h3 i hi).2.1.below hb hB, (h3 i hi).2.2⟩⟩
  rw [hb.cell (p := ⟨b, off + i, none⟩) (by show b < B; omega)]
  exact (h3 i hi).1

set_option maxHeartbeats 2000000 in
theorem concat_any (b off k cap : Nat) (A : Nat → Option Addr) (C : Nat → Nat) (LL : List (List (Int × Int))) (w : World) (hk : k ≤ 1000) (hR : Rds w b off k A C LL) (hbig : LL.flatten.length ≤ 1000000) :
    Calls Tryz.prog 148 #[.slice (some ⟨b, off, none⟩) k cap] w fun e w' => ∃ v, e = .returned v ∧ Own w' w.heap.size v LL.flatten ∧ Below w.heap.size w w' := by
  have HR : Aside (Rds w b off k A C LL) := hR
  clear hR
  have HBig : Aside (LL.flatten.length ≤ 1000000) := hbig
  clear hbig
  go_enter Tryz.func148, Tryz.ntmps148
  go_wp2
  go_loopg [3, 11] k (fun g s i wr => ∃ j q : Nat, j + g = k ∧ i = .int .i64 j ∧ s = .int .i64 q ∧ w = wr ∧ Aside (q = (LL.take j).flatten.length))
  case atStart => exact ⟨0, 0, by omega, rfl, rfl, rfl, rfl⟩
  case round =>
    obtain ⟨j, q, hj, rfl, rfl, rfl, HQ⟩ := hrel
    by_cases hlt : j < k
    · have c := (HR.out.2.2 j hlt).1
      obtain ⟨m, hm⟩ : ∃ m, m = (LL.getD j []).length := ⟨_, rfl⟩
      rw [← hm] at c
      have e1 : q + m = (LL.take (j + 1)).flatten.length := by rw [flat_take LL j (by rw [HR.out.1]; exact hlt), List.length_append, HQ.out, hm]
      have e2 : q + m ≤ 1000000 := by rw [e1]; exact Nat.le_trans (flat_le LL (j + 1)) HBig.out
      have E1 : Aside (q + m = (LL.take (j + 1)).flatten.length) := e1
      clear e1 hm
      go_wp2
      go_roundg (gk - 1)
      case measure => omega
      case rel => exact ⟨j + 1, q + m, by omega, by go_num, by go_num, rfl, E1⟩
    · obtain rfl : j = k := by omega
      have e2 : q ≤ 1000000 := by rw [HQ.out]; exact Nat.le_trans (flat_le LL j) HBig.out
      go_wp2_with fail
      refine (grow_any q _ e2).mono ?_
      rintro e w1 ⟨v, rfl, hown, hb1⟩
      have HO : Aside (Own w1 w.heap.size v []) := hown
      clear hown
      go_wp2_with fail
      go_loopg [6, 27] j (fun g s i ws => ∃ t : Nat, t + g = j ∧ i = .int .i64 t ∧ Aside (Own ws w.heap.size s (LL.take t).flatten) ∧ Below w.heap.size w ws)
      case atStart => exact ⟨0, by omega, rfl, HO, hb1⟩
      case round =>
        obtain ⟨t, ht, rfl, HT, hb2⟩ := hrel
        by_cases hlt2 : t < j
        · have R2 := HR.out.below hb2 (Nat.le_refl _)
          obtain ⟨c, r2, hnil⟩ := R2.2.2 t hlt2
          obtain ⟨l2, hl2⟩ : ∃ l2, l2 = LL.getD t [] := ⟨_, rfl⟩
          rw [← hl2] at c r2 hnil
          obtain ⟨m, hm⟩ : ∃ m, m = l2.length := ⟨_, rfl⟩
          rw [← hm] at c r2 hnil
          have e1 : (LL.take (t + 1)).flatten = (LL.take t).flatten ++ l2 := by rw [flat_take LL t (by rw [HR.out.1]; exact hlt2), hl2]
          have e3 : (LL.take t).flatten.length + m ≤ 1000000 := by
            have h3 := flat_le LL (t + 1)
            rw [e1, List.length_append, ← hm] at h3
            exact Nat.le_trans h3 HBig.out
          have E1 : Aside ((LL.take (t + 1)).flatten = (LL.take t).flatten ++ l2) := e1
          have E3 : Aside ((LL.take t).flatten.length + m ≤ 1000000) := e3
          have HR2 : Aside (Rd wr (A t) m l2) := r2
          have HN : Aside (A t = none → m = 0 ∧ C t = 0) := hnil
          clear e1 e3 hm hl2 R2 r2 hnil
          go_wp2_with (at_builtin; refine append_rd rfl _ _ rfl w.heap.size _ (LL.take t).flatten rfl HT.out (A t) m (C t) l2 rfl HR2.out HN.out E3.out hb2.size ?_)
          intro v' w' ho' hb3
          have HO' : Aside (Own w' w.heap.size v' ((LL.take t).flatten ++ l2)) := ho'
          have hb4 := hb2.trans hb3
          clear ho' hb3
          go_wp2
          go_roundg (gk - 1)
          case measure => omega
          case rel => exact ⟨t + 1, by omega, by go_num, by unfold Aside; rw [E1.out]; exact HO'.out, hb4⟩
        · obtain rfl : t = j := by omega
          have e1 : (LL.take t).flatten = LL.flatten := by rw [List.take_of_length_le (by rw [HR.out.1]; omega)]
          have E1 : Aside ((LL.take t).flatten = LL.flatten) := e1
          clear e1
          go_wp2
          go_ret
          exact ⟨_, rfl, by have h5 := HT.out; rw [E1.out] at h5; exact h5, hb2⟩
end Go.Proofs.YtcgpgflnihjpiafGreat

/- Plain facts on rows in which a key is put. -/
namespace Go.Proofs.YtcgpgflnihjpiafGreat.M

/-- The rows in which a key has a value, or, of -1, is not there. -/
def own (key val : Int) : List (Int × Int) := if val = -1 then [] else [(key, val)]
def lows (key : Int) (l : List (Int × Int)) : List (Int × Int) := l.filter fun r => decide (r.1 < key)
def highs (key : Int) (l : List (Int × Int)) : List (Int × Int) := l.filter fun r => decide (key < r.1)
def put (key val : Int) (l : List (Int × Int)) : List (Int × Int) := lows key l ++ own key val ++ highs key l

theorem mem_take {l : List (Int × Int)} {k : Nat} {r : Int × Int} (h : r ∈ l.take k) : ∃ i, i < k ∧ i < l.length ∧ l.getD i (0, 0) = r := by
  obtain ⟨i, hi, e⟩ := List.mem_iff_getElem.1 h
  rw [List.length_take] at hi
  refine ⟨i, by omega, by omega, ?_⟩
  rw [← e, List.getElem_take]
  simp [List.getD, show i < l.length by omega]
theorem mem_drop {l : List (Int × Int)} {k : Nat} {r : Int × Int} (h : r ∈ l.drop k) : ∃ i, k ≤ i ∧ i < l.length ∧ l.getD i (0, 0) = r := by
  obtain ⟨i, hi, e⟩ := List.mem_iff_getElem.1 h
  rw [List.length_drop] at hi
  refine ⟨k + i, by omega, by omega, ?_⟩
  rw [← e, List.getElem_drop]
  simp [List.getD, show k + i < l.length by omega]

theorem filter_all {p : Int × Int → Bool} (l : List (Int × Int)) (h : ∀ r ∈ l, p r = true) : l.filter p = l := List.filter_eq_self.2 h
theorem filter_no {p : Int × Int → Bool} (l : List (Int × Int)) (h : ∀ r ∈ l, p r = false) : l.filter p = [] := List.filter_eq_nil_iff.2 fun r hr => by rw [h r hr]; decide

theorem At.lows {l : List (Int × Int)} {key : Int} {k : Nat} {t : Bool} (h : At l key k t) (ok : Ok l) : lows key l = l.take k := by
  unfold M.lows
  rw [← List.take_append_drop k l, List.filter_append, filter_all (l.take k), filter_no (l.drop k)]
  · simp [List.take_append_drop]
  · intro r hr
    obtain ⟨i, h1, h2, rfl⟩ := mem_drop hr
    have := h.2.2.1 (by omega)
    have := ok.mono k i h1 h2
    exact decide_eq_false (by omega)
  · intro r hr
    obtain ⟨i, h1, h2, rfl⟩ := mem_take hr
    simpa using h.2.1 i h1

theorem At.highs_no {l : List (Int × Int)} {key : Int} {k : Nat} (h : At l key k false) (ok : Ok l) : highs key l = l.drop k := by
  unfold M.highs
  rw [← List.take_append_drop k l, List.filter_append, filter_no (l.take k), filter_all (l.drop k)]
  · simp [List.take_append_drop]
  · intro r hr
    obtain ⟨i, h1, h2, rfl⟩ := mem_drop hr
    have h3 := h.2.2.1 (by omega)
    have h4 := ok.mono k i h1 h2
    have h5 : (l.getD k (0, 0)).1 ≠ key := fun e => by have := h.2.2.2.2 ⟨by omega, e⟩; simp at this
    exact decide_eq_true (by omega)
  · intro r hr
    obtain ⟨i, h1, h2, rfl⟩ := mem_take hr
    have := h.2.1 i h1
    exact decide_eq_false (by omega)

theorem At.highs_yes {l : List (Int × Int)} {key : Int} {k : Nat} (h : At l key k true) (ok : Ok l) : highs key l = l.drop (k + 1) := by
  unfold M.highs
  rw [← List.take_append_drop (k + 1) l, List.filter_append, filter_no (l.take (k + 1)), filter_all (l.drop (k + 1))]
  · simp [List.take_append_drop]
  · intro r hr
    obtain ⟨i, h1, h2, rfl⟩ := mem_drop hr
    have h3 := h.yes
    have h4 := ok.asc k i h1 h2
    exact decide_eq_true (by omega)
  · intro r hr
    obtain ⟨i, h1, h2, rfl⟩ := mem_take hr
    have h3 := h.yes
    have h4 := ok.mono i k (by omega) h3.1
    exact decide_eq_false (by omega)

/-- The error of Put. -/
def putE (l : List (Int × Int)) (key val : Int) : Int := if asked l key ≠ 0 then asked l key else if val < -1 ∨ 996 < val then 3 else if 40 < (put key val l).length then 2 else 0
def putV (l : List (Int × Int)) (key val : Int) : List (Int × Int) := if putE l key val = 0 then put key val l else []
theorem putE_bad {l : List (Int × Int)} {key val : Int} (h : asked l key ≠ 0) : putE l key val = asked l key := by unfold putE; rw [if_pos h]
theorem putE_range {l : List (Int × Int)} {key val : Int} (h : asked l key = 0) (hv : val < -1 ∨ 996 < val) : putE l key val = 3 := by unfold putE; rw [if_neg (by omega), if_pos hv]
theorem putE_many {l : List (Int × Int)} {key val : Int} (h : asked l key = 0) (h1 : -1 ≤ val) (h2 : val ≤ 996) (h3 : 40 < (put key val l).length) : putE l key val = 2 := by unfold putE; rw [if_neg (by omega), if_neg (by omega), if_pos h3]
theorem putE_ok {l : List (Int × Int)} {key val : Int} (h : asked l key = 0) (h1 : -1 ≤ val) (h2 : val ≤ 996) (h3 : (put key val l).length ≤ 40) : putE l key val = 0 := by unfold putE; rw [if_neg (by omega), if_neg (by omega), if_neg (by omega)]
theorem putE_zero {l : List (Int × Int)} {key val : Int} (h : putE l key val = 0) : asked l key = 0 ∧ -1 ≤ val ∧ val ≤ 996 ∧ (put key val l).length ≤ 40 := by
  unfold putE at h
  split at h
  · omega
  · split at h
    · omega
    · split at h
      · omega
      · omega
theorem putV_no {l : List (Int × Int)} {key val : Int} (h : putE l key val ≠ 0) : putV l key val = [] := by unfold putV; rw [if_neg h]
theorem putV_ok {l : List (Int × Int)} {key val : Int} (h : putE l key val = 0) : putV l key val = put key val l := by unfold putV; rw [if_pos h]

end Go.Proofs.YtcgpgflnihjpiafGreat.M

/- rows.Put. -/
namespace Go.Proofs.YtcgpgflnihjpiafGreat
open Go.RowKit

theorem Own.lower {w : World} {base base' : Nat} {v : Value} {l : List (Int × Int)} (h : Own w base v l) (hb : base' ≤ base) : Own w base' v l := by
  obtain ⟨h1, h2⟩ := h
  refine ⟨h1, ?_⟩
  rcases h2 with h2 | ⟨g, cap, cur, hv, hg, r⟩
  · exact Or.inl h2
  · exact Or.inr ⟨g, cap, cur, hv, Nat.le_trans hb hg, r⟩

theorem concat3 (W0 : World) (c : Nat) (hc : W0.heap.size = c) (a0 a1 a2 : Option Addr) (n0 n1 n2 c0 c1 c2 : Nat) (L0 L1 L2 : List (Int × Int))
    (h0 : Rd W0 a0 n0 L0) (h1 : Rd W0 a1 n1 L1) (h2 : Rd W0 a2 n2 L2) (z0 : a0 = none → n0 = 0 ∧ c0 = 0) (z1 : a1 = none → n1 = 0 ∧ c1 = 0) (z2 : a2 = none → n2 = 0 ∧ c2 = 0) (hbig : n0 + n1 + n2 ≤ 1000000) :
    Calls Tryz.prog 148 #[.slice (some ⟨c, 0, none⟩) 3 3] (W0.alloc (.cells #[.slice a0 n0 c0, .slice a1 n1 c1, .slice a2 n2 c2] 49)) fun e w' => ∃ a nn cap, e = .returned (.slice a nn cap) ∧ Rd w' a nn (L0 ++ L1 ++ L2) ∧ nn ≤ cap ∧ cap ≤ maxLen ∧ ((a = none → nn = 0 ∧ cap = 0) ∧ Own w' W0.heap.size (.slice a nn cap) (L0 ++ L1 ++ L2)) ∧ Below W0.heap.size W0 w' := by
  subst hc
  obtain ⟨W, hW⟩ : ∃ W, W = W0.alloc (.cells #[.slice a0 n0 c0, .slice a1 n1 c1, .slice a2 n2 c2] 49) := ⟨_, rfl⟩
  have hb : Below W0.heap.size W0 W := by rw [hW]; exact (Below.refl _ _).alloc (Nat.le_refl _) _
  have hsz : W.heap.size = W0.heap.size + 1 := by rw [hW]; simp
  have hR : Rds W W0.heap.size 0 3 (fun i => if i = 0 then a0 else if i = 1 then a1 else a2) (fun i => if i = 0 then c0 else if i = 1 then c1 else c2) [L0, L1, L2] := by
    refine ⟨rfl, by omega, fun i hi => ?_⟩
    have e0 := h0.1
    have e1 := h1.1
    have e2 := h2.1
    match i, hi with
    | 0, _ => exact ⟨by rw [hW]; simp [go_sem, e0], by simpa [e0] using h0.below hb (Nat.le_refl _), by simpa [e0] using z0⟩
    | 1, _ => exact ⟨by rw [hW]; simp [go_sem, e1], by simpa [e1] using h1.below hb (Nat.le_refl _), by simpa [e1] using z1⟩
    | 2, _ => exact ⟨by rw [hW]; simp [go_sem, e2], by simpa [e2] using h2.below hb (Nat.le_refl _), by simpa [e2] using z2⟩
  rw [← hW]
  refine (concat_any W0.heap.size 0 3 3 _ _ [L0, L1, L2] W (by omega) hR (by simp [h0.1, h1.1, h2.1]; omega)).mono ?_
  rintro e w' ⟨v, rfl, hown, hb2⟩
  have ef : [L0, L1, L2].flatten = L0 ++ L1 ++ L2 := by simp
  rw [ef] at hown
  obtain ⟨a, cap, rfl, r1, r2, r3, r4⟩ := hown.rd
  exact ⟨a, _, cap, rfl, r1, r2, r3, ⟨r4, hown.lower (by omega)⟩, hb.trans (hb2.mono (by omega))⟩

/-- What Put hands back where it is right. -/
def Done (w w' : World) (L : List (Int × Int)) (e : Ending) : Prop := ∃ a nn cap, e = .returned (.tuple #[.slice a nn cap, .int .i64 0]) ∧ Rd w' a nn L ∧ nn ≤ cap ∧ cap ≤ maxLen ∧ ((a = none → nn = 0 ∧ cap = 0) ∧ Own w' w.heap.size (.slice a nn cap) L) ∧ Below w.heap.size w w'

theorem Done.mk {w w1 w2 w' : World} {L L' : List (Int × Int)} {a : Option Addr} {nn cap : Nat} (hL : L' = L) (h1 : Rd w' a nn L) (h2 : nn ≤ cap) (h3 : cap ≤ maxLen) (h4 : (a = none → nn = 0 ∧ cap = 0) ∧ Own w' w2.heap.size (.slice a nn cap) L) (b1 : Below w.heap.size w w1) (b2 : Below w1.heap.size w1 w2) (b3 : Below w2.heap.size w2 w') :
    Done w w' L' (.returned (.tuple #[.slice a nn cap, .int .i64 0])) := by
  subst hL
  have b4 := b2.trans (b3.mono b2.size)
  exact ⟨a, nn, cap, rfl, h1, h2, h3, ⟨h4.1, h4.2.lower (Nat.le_trans b1.size b2.size)⟩, b1.trans (b4.mono b1.size)⟩

set_option maxHeartbeats 4000000 in
theorem put_some (b off n cap : Nat) (l : List (Int × Int)) (key val : Int) (w : World) (hcap : n ≤ cap) (_hcm : cap ≤ maxLen) (h : Rd w (some ⟨b, off, none⟩) n l) (hb : M.asked l key = 0) (hv : -1 ≤ val) (hv2 : val ≤ 996) (hfew : (M.put key val l).length ≤ 40) :
    Calls Tryz.prog 123 #[.slice (some ⟨b, off, none⟩) n cap, .int .i64 key, .int .i64 val] w fun e w' => Done w w' (M.put key val l) e := by
  have hz := M.asked_zero hb
  have hz2 := (M.chk_zero l).1 hz.1
  have hn40 : n ≤ 40 := by rw [← h.1]; exact hz2.1
  have H := asked_any (some ⟨b, off, none⟩) n cap l key w h (by omega)
  rw [hb] at H
  have HH : Hid (Calls Tryz.prog 143 #[.slice (some ⟨b, off, none⟩) n cap, .int .i64 key] w fun e w' => e = .returned (.int .i64 0) ∧ Below w.heap.size w w') := H
  have HR : Hid (Rd w (some ⟨b, off, none⟩) n l) := h
  have HZ : Hid (M.chk l = 0) := hz.1
  have HOk : Hid (M.Ok l) := hz2.2
  have HF : Hid ((M.put key val l).length ≤ 40) := hfew
  clear H hb hz h hz2 hfew
  unfold maxLen at _hcm
  have hd : decide (val < -1) = false := by simp; omega
  go_enter Tryz.func123, Tryz.ntmps123
  go_wp2_with fail
  refine HH.out.mono ?_
  rintro e w1 ⟨rfl, hb1⟩
  have HR1 : Hid (Rd w1 (some ⟨b, off, none⟩) n l) := HR.out.below hb1 (Nat.le_refl _)
  go_wp2_with fail
  refine (place_any (some ⟨b, off, none⟩) n cap l key w1 HR1.out HZ.out).mono ?_
  rintro e w2 ⟨k, t, rfl, hat, hb2⟩
  have hb3 := hb1.trans (hb2.mono hb1.size)
  have HR2 : Hid (Rd w2 (some ⟨b, off, none⟩) n l) := HR1.out.below hb2 (Nat.le_refl _)
  have hk : k ≤ n := by have := hat.1; rw [HR2.out.1] at this; exact this
  have HAt : Hid (M.At l key k t) := hat
  clear hat hb1 hb2
  cases t with
  | true =>
    have hk1 : k < n := by have := HAt.out.yes.1; rw [HR2.out.1] at this; exact this
    by_cases hv0 : val = -1
    · have hvb : (val != -1) = false := by simp [hv0]
      have E : Hid (M.put key val l = l.take k ++ [] ++ l.drop (k + 1)) := by unfold Hid M.put M.own; rw [HAt.out.lows HOk.out, HAt.out.highs_yes HOk.out, if_pos hv0]
      clear hv0
      go_wp2_with fail
      go_quiet (fail)
      go_wp2_with fail
      all_goals (
        have R := HR2.out.below (drewN_below w2 nq) (Nat.le_refl _)
        have R2 : Rd (w2.drewN nq) (some ⟨b, off + k * 2 + 2, none⟩) (n - k - 1) (l.drop (k + 1)) := by
          have h := R.drop (k + 1)
          rwa [show off + (k + 1) * 2 = off + k * 2 + 2 by omega, show n - (k + 1) = n - k - 1 by omega] at h
        refine (concat3 (w2.drewN nq) w2.heap.size rfl _ _ _ _ _ _ _ _ _ (l.take k) [] (l.drop (k + 1)) (R.take k hk) (Rd.zero rfl rfl) (by first | exact R2 | exact Rd.zero (by omega) R2.1) (by simp) (by simp) (by simp) (by omega)).mono ?_
        rintro e w3 ⟨a', nn, cap', rfl, r1, r2, r3, r4, hb4⟩
        have F : Hid (Done w w3 (M.put key val l) (.returned (.tuple #[.slice a' nn cap', .int .i64 0]))) := Done.mk E.out r1 r2 r3 r4 hb3 (drewN_below w2 nq) hb4
        clear r1 r2 r3 r4 R R2 hb4
        go_wp2
        go_ret2
        exact F.out)
    · have hvb : (val != -1) = true := by simp [hv0]
      have E : Hid (M.put key val l = l.take k ++ [(key, val)] ++ l.drop (k + 1)) := by unfold Hid M.put M.own; rw [HAt.out.lows HOk.out, HAt.out.highs_yes HOk.out, if_neg hv0]
      clear hv0
      go_wp2_with fail
      go_quiet (fail)
      go_wp2_with fail
      all_goals (
        have R := (HR2.out.below (drewN_below w2 nq) (Nat.le_refl _)).below (w' := (w2.drewN nq).alloc (.cells #[.int .i64 key, .int .i64 val] 98)) ((Below.refl _ _).alloc (Nat.le_refl _) _) (Nat.le_refl _)
        have R2 : Rd ((w2.drewN nq).alloc (.cells #[.int .i64 key, .int .i64 val] 98)) (some ⟨b, off + k * 2 + 2, none⟩) (n - k - 1) (l.drop (k + 1)) := by
          have h := R.drop (k + 1)
          rwa [show off + (k + 1) * 2 = off + k * 2 + 2 by omega, show n - (k + 1) = n - k - 1 by omega] at h
        refine (concat3 ((w2.drewN nq).alloc (.cells #[.int .i64 key, .int .i64 val] 98)) (w2.heap.size + 1) (by simp) _ _ _ _ _ _ _ _ _ (l.take k) [(key, val)] (l.drop (k + 1)) (R.take k hk) (one_rd (w2.drewN nq) key val) (by first | exact R2 | exact Rd.zero (by omega) R2.1) (by simp) (by simp) (by simp) (by omega)).mono ?_
        rintro e w3 ⟨a', nn, cap', rfl, r1, r2, r3, r4, hb4⟩
        have F : Hid (Done w w3 (M.put key val l) (.returned (.tuple #[.slice a' nn cap', .int .i64 0]))) := Done.mk E.out r1 r2 r3 r4 hb3 ((drewN_below w2 nq).alloc (Nat.le_refl _) _) hb4
        clear r1 r2 r3 r4 R R2 hb4
        go_wp2
        go_ret2
        exact F.out)
  | false =>
    by_cases hv0 : val = -1
    · have hvb : (val != -1) = false := by simp [hv0]
      have E : Hid (M.put key val l = l.take k ++ [] ++ l.drop k) := by unfold Hid M.put M.own; rw [HAt.out.lows HOk.out, HAt.out.highs_no HOk.out, if_pos hv0]
      clear hv0
      go_wp2_with fail
      go_quiet (fail)
      go_wp2_with fail
      all_goals (
        have R := HR2.out.below (drewN_below w2 nq) (Nat.le_refl _)
        have R2 : Rd (w2.drewN nq) (some ⟨b, off + k * 2, none⟩) (n - k) (l.drop k) := by
          exact R.drop k
        refine (concat3 (w2.drewN nq) w2.heap.size rfl _ _ _ _ _ _ _ _ _ (l.take k) [] (l.drop k) (R.take k hk) (Rd.zero rfl rfl) (by first | exact R2 | exact Rd.zero (by omega) R2.1) (by simp) (by simp) (by simp) (by omega)).mono ?_
        rintro e w3 ⟨a', nn, cap', rfl, r1, r2, r3, r4, hb4⟩
        have F : Hid (Done w w3 (M.put key val l) (.returned (.tuple #[.slice a' nn cap', .int .i64 0]))) := Done.mk E.out r1 r2 r3 r4 hb3 (drewN_below w2 nq) hb4
        clear r1 r2 r3 r4 R R2 hb4
        go_wp2
        go_ret2
        exact F.out)
    · have hvb : (val != -1) = true := by simp [hv0]
      have E : Hid (M.put key val l = l.take k ++ [(key, val)] ++ l.drop k) := by unfold Hid M.put M.own; rw [HAt.out.lows HOk.out, HAt.out.highs_no HOk.out, if_neg hv0]
      have hn39 : n ≤ 39 := by
        have h := HF.out
        rw [E.out] at h
        simp only [List.length_append, List.length_take, List.length_drop, List.length_cons, List.length_nil, HR2.out.1] at h
        omega
      clear hv0
      go_wp2_with fail
      go_quiet (fail)
      go_wp2_with fail
      all_goals (
        have R := (HR2.out.below (drewN_below w2 nq) (Nat.le_refl _)).below (w' := (w2.drewN nq).alloc (.cells #[.int .i64 key, .int .i64 val] 98)) ((Below.refl _ _).alloc (Nat.le_refl _) _) (Nat.le_refl _)
        have R2 : Rd ((w2.drewN nq).alloc (.cells #[.int .i64 key, .int .i64 val] 98)) (some ⟨b, off + k * 2, none⟩) (n - k) (l.drop k) := by
          exact R.drop k
        refine (concat3 ((w2.drewN nq).alloc (.cells #[.int .i64 key, .int .i64 val] 98)) (w2.heap.size + 1) (by simp) _ _ _ _ _ _ _ _ _ (l.take k) [(key, val)] (l.drop k) (R.take k hk) (one_rd (w2.drewN nq) key val) (by first | exact R2 | exact Rd.zero (by omega) R2.1) (by simp) (by simp) (by simp) (by omega)).mono ?_
        rintro e w3 ⟨a', nn, cap', rfl, r1, r2, r3, r4, hb4⟩
        have F : Hid (Done w w3 (M.put key val l) (.returned (.tuple #[.slice a' nn cap', .int .i64 0]))) := Done.mk E.out r1 r2 r3 r4 hb3 ((drewN_below w2 nq).alloc (Nat.le_refl _) _) hb4
        clear r1 r2 r3 r4 R R2 hb4
        go_wp2
        go_ret2
        exact F.out)

set_option maxHeartbeats 1000000 in
theorem put_bad (a : Option Addr) (n cap : Nat) (l : List (Int × Int)) (key val : Int) (w : World) (h : Rd w a n l) (hm : n ≤ 9223372036854775807) (hb : M.asked l key ≠ 0) :
    Calls Tryz.prog 123 #[.slice a n cap, .int .i64 key, .int .i64 val] w fun e w' => e = .returned (.tuple #[.slice none 0 0, .int .i64 (M.asked l key)]) ∧ Below w.heap.size w w' := by
  have H := asked_any a n cap l key w h hm
  obtain ⟨c, hc⟩ : ∃ c, c = M.asked l key := ⟨_, rfl⟩
  rw [← hc] at H hb ⊢
  clear hc h
  have hne : (c != 0) = true := by simp [hb]
  clear hb
  have HH : Hid (Calls Tryz.prog 143 #[.slice a n cap, .int .i64 key] w fun e w' => e = .returned (.int .i64 c) ∧ Below w.heap.size w w') := H
  clear H
  go_enter Tryz.func123, Tryz.ntmps123
  go_wp2_with (go_at_call 143; refine HH.out.mono ?_; rintro e w' ⟨rfl, hb1⟩)
  go_ret2
  exact ⟨rfl, hb1⟩

set_option maxHeartbeats 1000000 in
theorem put_range (a : Option Addr) (n cap : Nat) (l : List (Int × Int)) (key val : Int) (w : World) (h : Rd w a n l) (hm : n ≤ 9223372036854775807) (hb : M.asked l key = 0) (hv : val < -1 ∨ 996 < val) :
    Calls Tryz.prog 123 #[.slice a n cap, .int .i64 key, .int .i64 val] w fun e w' => e = .returned (.tuple #[.slice none 0 0, .int .i64 3]) ∧ Below w.heap.size w w' := by
  have H := asked_any a n cap l key w h hm
  rw [hb] at H
  clear h hb
  have HH : Hid (Calls Tryz.prog 143 #[.slice a n cap, .int .i64 key] w fun e w' => e = .returned (.int .i64 0) ∧ Below w.heap.size w w') := H
  clear H
  rcases hv with hv | hv
  · go_enter Tryz.func123, Tryz.ntmps123
    go_wp2_with (go_at_call 143; refine HH.out.mono ?_; rintro e w' ⟨rfl, hb1⟩)
    go_ret2
    exact ⟨rfl, hb1⟩
  · have hd : decide (val < -1) = false := by simp; omega
    go_enter Tryz.func123, Tryz.ntmps123
    go_wp2_with (go_at_call 143; refine HH.out.mono ?_; rintro e w' ⟨rfl, hb1⟩)
    go_ret2
    exact ⟨rfl, hb1⟩

set_option maxHeartbeats 2000000 in
theorem put_many (b off n cap : Nat) (l : List (Int × Int)) (key val : Int) (w : World) (hcap : n ≤ cap) (_hcm : cap ≤ maxLen) (h : Rd w (some ⟨b, off, none⟩) n l) (hb : M.asked l key = 0) (hv : -1 ≤ val) (hv2 : val ≤ 996) (hmany : 40 < (M.put key val l).length) :
    Calls Tryz.prog 123 #[.slice (some ⟨b, off, none⟩) n cap, .int .i64 key, .int .i64 val] w fun e w' => e = .returned (.tuple #[.slice none 0 0, .int .i64 2]) ∧ Below w.heap.size w w' := by
  have hz := M.asked_zero hb
  have hz2 := (M.chk_zero l).1 hz.1
  have hn40 : n ≤ 40 := by rw [← h.1]; exact hz2.1
  have H := asked_any (some ⟨b, off, none⟩) n cap l key w h (by omega)
  rw [hb] at H
  have HH : Hid (Calls Tryz.prog 143 #[.slice (some ⟨b, off, none⟩) n cap, .int .i64 key] w fun e w' => e = .returned (.int .i64 0) ∧ Below w.heap.size w w') := H
  have HR : Hid (Rd w (some ⟨b, off, none⟩) n l) := h
  have HZ : Hid (M.chk l = 0) := hz.1
  have HOk : Hid (M.Ok l) := hz2.2
  have HF : Hid (40 < (M.put key val l).length) := hmany
  clear H hb hz h hz2 hmany
  unfold maxLen at _hcm
  have hd : decide (val < -1) = false := by simp; omega
  go_enter Tryz.func123, Tryz.ntmps123
  go_wp2_with fail
  refine HH.out.mono ?_
  rintro e w1 ⟨rfl, hb1⟩
  have HR1 : Hid (Rd w1 (some ⟨b, off, none⟩) n l) := HR.out.below hb1 (Nat.le_refl _)
  go_wp2_with fail
  refine (place_any (some ⟨b, off, none⟩) n cap l key w1 HR1.out HZ.out).mono ?_
  rintro e w2 ⟨k, t, rfl, hat, hb2⟩
  have hb3 := hb1.trans (hb2.mono hb1.size)
  have HR2 : Hid (Rd w2 (some ⟨b, off, none⟩) n l) := HR1.out.below hb2 (Nat.le_refl _)
  have hk : k ≤ n := by have := hat.1; rw [HR2.out.1] at this; exact this
  have HAt : Hid (M.At l key k t) := hat
  clear hat hb1 hb2
  cases t with
  | true =>
    have hk1 : k < n := by have := HAt.out.yes.1; rw [HR2.out.1] at this; exact this
    have h := HF.out
    have h2 : (M.own key val).length ≤ 1 := by unfold M.own; split <;> simp
    unfold M.put at h
    rw [HAt.out.lows HOk.out, HAt.out.highs_yes HOk.out] at h
    simp only [List.length_append, List.length_take, List.length_drop, HR2.out.1] at h
    omega
  | false =>
    have h := HF.out
    unfold M.put at h
    rw [HAt.out.lows HOk.out, HAt.out.highs_no HOk.out] at h
    simp only [List.length_append, List.length_take, List.length_drop, HR2.out.1] at h
    have h2 : (M.own key val).length ≤ 1 := by unfold M.own; split <;> simp
    have hv0 : val ≠ -1 := by
      intro e
      unfold M.own at h
      rw [if_pos e] at h
      simp at h
      omega
    have hn : 40 ≤ n := by omega
    clear h h2
    have hvb : (val != -1) = true := by simp [hv0]
    clear hv0
    go_wp2_with fail
    go_quiet (fail)
    go_wp2_with fail
    all_goals (
      go_ret2
      exact ⟨rfl, (below_drewN hb3 nq).alloc (Nat.le_trans hb3.size (Nat.le_refl _)) _⟩)

theorem at_nil {key : Int} {k : Nat} {t : Bool} (h : M.At [] key k t) : k = 0 ∧ t = false := by
  obtain ⟨h1, _, _, h4⟩ := h
  refine ⟨by simpa using h1, ?_⟩
  cases t with
  | false => rfl
  | true => have := h4.1 rfl; simp at this

set_option maxHeartbeats 2000000 in
theorem put_none (a : Option Addr) (cap : Nat) (key val : Int) (w : World) (_hcm : cap ≤ maxLen) (hnil : a = none → cap = 0) (hb : M.asked [] key = 0) (hv : -1 ≤ val) (hv2 : val ≤ 996) :
    Calls Tryz.prog 123 #[.slice a 0 cap, .int .i64 key, .int .i64 val] w fun e w' => Done w w' (M.put key val []) e := by
  have h : Rd w a 0 [] := Rd.zero rfl rfl
  have hz := M.asked_zero hb
  have H := asked_any a 0 cap [] key w h (by omega)
  rw [hb] at H
  have HH : Hid (Calls Tryz.prog 143 #[.slice a 0 cap, .int .i64 key] w fun e w' => e = .returned (.int .i64 0) ∧ Below w.heap.size w w') := H
  have HZ : Hid (M.chk [] = 0) := hz.1
  clear H hb hz h
  unfold maxLen at _hcm
  have hd : decide (val < -1) = false := by simp; omega
  have HN : Hid (a = none → cap = 0) := hnil
  clear hnil
  go_enter Tryz.func123, Tryz.ntmps123
  go_wp2_with fail
  refine HH.out.mono ?_
  rintro e w1 ⟨rfl, hb1⟩
  go_wp2_with fail
  refine (place_any a 0 cap [] key w1 (Rd.zero rfl rfl) HZ.out).mono ?_
  rintro e w2 ⟨k, t, rfl, hat, hb2⟩
  obtain ⟨rfl, rfl⟩ := at_nil hat
  have hb3 := hb1.trans (hb2.mono hb1.size)
  clear hat hb1 hb2
  cases a with
  | none =>
    obtain rfl : cap = 0 := HN.out rfl
    by_cases hv0 : val = -1
    · have hvb : (val != -1) = false := by simp [hv0]
      have E : Hid (M.put key val [] = [] ++ [] ++ []) := by unfold Hid M.put M.own; rw [if_pos hv0]; rfl
      clear hv0
      go_wp2_with fail
      go_quiet (fail)
      go_wp2_with fail
      all_goals (
        refine (concat3 (w2.drewN nq) w2.heap.size rfl _ _ _ _ _ _ _ _ _ [] [] [] (Rd.zero rfl rfl) (Rd.zero rfl rfl) (Rd.zero rfl rfl) (by simp) (by simp) (by simp) (by omega)).mono ?_
        rintro e w3 ⟨a', nn, cap', rfl, r1, r2, r3, r4, hb4⟩
        have F : Hid (Done w w3 (M.put key val []) (.returned (.tuple #[.slice a' nn cap', .int .i64 0]))) := Done.mk E.out r1 r2 r3 r4 hb3 (drewN_below w2 nq) hb4
        clear r1 r2 r3 r4 hb4
        go_wp2
        go_ret2
        exact F.out)
    · have hvb : (val != -1) = true := by simp [hv0]
      have E : Hid (M.put key val [] = [] ++ [(key, val)] ++ []) := by unfold Hid M.put M.own; rw [if_neg hv0]; rfl
      clear hv0
      go_wp2_with fail
      go_quiet (fail)
      go_wp2_with fail
      all_goals (
        refine (concat3 ((w2.drewN nq).alloc (.cells #[.int .i64 key, .int .i64 val] 98)) (w2.heap.size + 1) (by simp) _ _ _ _ _ _ _ _ _ [] [(key, val)] [] (Rd.zero rfl rfl) (one_rd (w2.drewN nq) key val) (Rd.zero rfl rfl) (by simp) (by simp) (by simp) (by omega)).mono ?_
        rintro e w3 ⟨a', nn, cap', rfl, r1, r2, r3, r4, hb4⟩
        have F : Hid (Done w w3 (M.put key val []) (.returned (.tuple #[.slice a' nn cap', .int .i64 0]))) := Done.mk E.out r1 r2 r3 r4 hb3 ((drewN_below w2 nq).alloc (Nat.le_refl _) _) hb4
        clear r1 r2 r3 r4 hb4
        go_wp2
        go_ret2
        exact F.out)
  | some ad =>
    obtain ⟨b, off, spot⟩ := ad
    by_cases hv0 : val = -1
    · have hvb : (val != -1) = false := by simp [hv0]
      have E : Hid (M.put key val [] = [] ++ [] ++ []) := by unfold Hid M.put M.own; rw [if_pos hv0]; rfl
      clear hv0
      go_wp2_with fail
      go_quiet (fail)
      go_wp2_with fail
      all_goals (
        refine (concat3 (w2.drewN nq) w2.heap.size rfl _ _ _ _ _ _ _ _ _ [] [] [] (Rd.zero rfl rfl) (Rd.zero rfl rfl) (Rd.zero rfl rfl) (by simp) (by simp) (by simp) (by omega)).mono ?_
        rintro e w3 ⟨a', nn, cap', rfl, r1, r2, r3, r4, hb4⟩
        have F : Hid (Done w w3 (M.put key val []) (.returned (.tuple #[.slice a' nn cap', .int .i64 0]))) := Done.mk E.out r1 r2 r3 r4 hb3 (drewN_below w2 nq) hb4
        clear r1 r2 r3 r4 hb4
        go_wp2
        go_ret2
        exact F.out)
    · have hvb : (val != -1) = true := by simp [hv0]
      have E : Hid (M.put key val [] = [] ++ [(key, val)] ++ []) := by unfold Hid M.put M.own; rw [if_neg hv0]; rfl
      clear hv0
      go_wp2_with fail
      go_quiet (fail)
      go_wp2_with fail
      all_goals (
        refine (concat3 ((w2.drewN nq).alloc (.cells #[.int .i64 key, .int .i64 val] 98)) (w2.heap.size + 1) (by simp) _ _ _ _ _ _ _ _ _ [] [(key, val)] [] (Rd.zero rfl rfl) (one_rd (w2.drewN nq) key val) (Rd.zero rfl rfl) (by simp) (by simp) (by simp) (by omega)).mono ?_
        rintro e w3 ⟨a', nn, cap', rfl, r1, r2, r3, r4, hb4⟩
        have F : Hid (Done w w3 (M.put key val []) (.returned (.tuple #[.slice a' nn cap', .int .i64 0]))) := Done.mk E.out r1 r2 r3 r4 hb3 ((drewN_below w2 nq).alloc (Nat.le_refl _) _) hb4
        clear r1 r2 r3 r4 hb4
        go_wp2
        go_ret2
        exact F.out)

/-- What a call hands back that answers rows and an error. -/
def Hands (w w' : World) (L : List (Int × Int)) (c : Int) (e : Ending) : Prop := ∃ a nn cap, e = .returned (.tuple #[.slice a nn cap, .int .i64 c]) ∧ Rd w' a nn L ∧ nn ≤ cap ∧ cap ≤ maxLen ∧ (a = none → nn = 0 ∧ cap = 0) ∧ Below w.heap.size w w'

theorem Hands.err {w w' : World} (c : Int) (hb : Below w.heap.size w w') : Hands w w' [] c (.returned (.tuple #[.slice none 0 0, .int .i64 c])) :=
  ⟨none, 0, 0, rfl, Rd.zero rfl rfl, Nat.le_refl _, by simp [maxLen], fun _ => ⟨rfl, rfl⟩, hb⟩

/-- .. in rows of the call's own. -/
def HandsO (w w' : World) (L : List (Int × Int)) (c : Int) (e : Ending) : Prop := ∃ a nn cap, e = .returned (.tuple #[.slice a nn cap, .int .i64 c]) ∧ Rd w' a nn L ∧ nn ≤ cap ∧ cap ≤ maxLen ∧ ((a = none → nn = 0 ∧ cap = 0) ∧ Own w' w.heap.size (.slice a nn cap) L) ∧ Below w.heap.size w w'
theorem HandsO.err {w w' : World} (c : Int) (hb : Below w.heap.size w w') : HandsO w w' [] c (.returned (.tuple #[.slice none 0 0, .int .i64 c])) :=
  ⟨none, 0, 0, rfl, Rd.zero rfl rfl, Nat.le_refl _, by simp [maxLen], ⟨fun _ => ⟨rfl, rfl⟩, World.ownsRow_nil _ _ _ _⟩, hb⟩
theorem HandsO.hands {w w' : World} {L : List (Int × Int)} {c : Int} {e : Ending} (h : HandsO w w' L c e) : Hands w w' L c e := by
  obtain ⟨a, nn, cap, h1, h2, h3, h4, h5, h6⟩ := h
  exact ⟨a, nn, cap, h1, h2, h3, h4, h5.1, h6⟩

theorem put_own (a : Option Addr) (n cap : Nat) (l : List (Int × Int)) (key val : Int) (w : World) (h : Rd w a n l) (hcap : n ≤ cap) (hcm : cap ≤ maxLen) (hnil : a = none → n = 0 ∧ cap = 0) :
    Calls Tryz.prog 123 #[.slice a n cap, .int .i64 key, .int .i64 val] w fun e w' => HandsO w w' (M.putV l key val) (M.putE l key val) e := by
  have hm : n ≤ 9223372036854775807 := by unfold maxLen at hcm; omega
  by_cases hb : M.asked l key = 0
  · by_cases hv : val < -1 ∨ 996 < val
    · have e1 := M.putE_range hb hv
      rw [M.putV_no (by omega), e1]
      refine (put_range a n cap l key val w h hm hb hv).mono ?_
      rintro e w' ⟨rfl, hb1⟩
      exact HandsO.err 3 hb1
    · by_cases hmany : 40 < (M.put key val l).length
      · have e1 := M.putE_many hb (by omega) (by omega) hmany
        rw [M.putV_no (by omega), e1]
        rcases h.cases with ⟨rfl, rfl⟩ | ⟨b, off, rfl, hn, hl, hB, hc⟩
        · exfalso
          have h2 : (M.own key val).length ≤ 1 := by unfold M.own; split <;> simp
          simp [M.put, M.lows, M.highs] at hmany
          omega
        · refine (put_many b off n cap l key val w hcap hcm h hb (by omega) (by omega) hmany).mono ?_
          rintro e w' ⟨rfl, hb1⟩
          exact HandsO.err 2 hb1
      · have e1 := M.putE_ok hb (val := val) (by omega) (by omega) (by omega)
        rw [M.putV_ok e1, e1]
        rcases h.cases with ⟨rfl, rfl⟩ | ⟨b, off, rfl, hn, hl, hB, hc⟩
        · exact put_none a cap key val w hcm (fun h => (hnil h).2) hb (by omega) (by omega)
        · exact put_some b off n cap l key val w hcap hcm h hb (by omega) (by omega) (by omega)
  · have e1 := M.putE_bad (val := val) hb
    rw [M.putV_no (by omega), e1]
    refine (put_bad a n cap l key val w h hm hb).mono ?_
    rintro e w' ⟨rfl, hb1⟩
    exact HandsO.err _ hb1
theorem put_any (a : Option Addr) (n cap : Nat) (l : List (Int × Int)) (key val : Int) (w : World) (h : Rd w a n l) (hcap : n ≤ cap) (hcm : cap ≤ maxLen) (hnil : a = none → n = 0 ∧ cap = 0) :
    Calls Tryz.prog 123 #[.slice a n cap, .int .i64 key, .int .i64 val] w fun e w' => Hands w w' (M.putV l key val) (M.putE l key val) e := (put_own a n cap l key val w h hcap hcm hnil).mono fun _ _ h => h.hands
end Go.Proofs.YtcgpgflnihjpiafGreat

/- SameRows. -/
namespace Go.Proofs.YtcgpgflnihjpiafGreat
open Go.RowKit

theorem same_len (a a2 : Option Addr) (n n2 cap cap2 : Nat) (w : World) (h : n ≠ n2) :
    Calls Tryz.prog 18 #[.slice a n cap, .slice a2 n2 cap2] w fun e w' => e = .returned (.bool false) ∧ w' = w := by
  have hb : ((n : Int) != (n2 : Int)) = true := by simp; omega
  go_enter Tryz.func18, Tryz.ntmps18
  go_wp2
  go_ret
  exact ⟨rfl, rfl⟩

theorem same_none (a a2 : Option Addr) (cap cap2 : Nat) (w : World) :
    Calls Tryz.prog 18 #[.slice a 0 cap, .slice a2 0 cap2] w fun e w' => e = .returned (.bool true) ∧ w' = w := by
  go_enter Tryz.func18, Tryz.ntmps18
  go_wp2
  refine wp_loop_rounds 1 ?_
  rw [rounds_succ]
  go_wp2
  go_ret
  exact ⟨rfl, rfl⟩

theorem eq_drop (l l2 : List (Int × Int)) (k : Nat) (h : k < l.length) (h2 : k < l2.length) : (l.drop k = l2.drop k) ↔ l.getD k (0, 0) = l2.getD k (0, 0) ∧ l.drop (k + 1) = l2.drop (k + 1) := by
  rw [M.drop_at l k h, M.drop_at l2 k h2, List.cons.injEq]

theorem ret_no {p : Prop} [Decidable p] (h : ¬ p) : Ending.returned (.bool false) = .returned (.bool (decide p)) := by rw [decide_eq_false h]
theorem ret_yes {p : Prop} [Decidable p] (h : p) : Ending.returned (.bool true) = .returned (.bool (decide p)) := by rw [decide_eq_true h]

set_option maxHeartbeats 2000000 in
theorem same_some (b off b2 off2 n cap cap2 : Nat) (l l2 : List (Int × Int)) (w : World) (hm : n ≤ 9223372036854775807) (hl : l.length = n) (hl2 : l2.length = n)
    (hc : ∀ i, i < n → w.cell? ⟨b, off + i * 2, none⟩ = some (.int .i64 (l.getD i (0, 0)).1) ∧ w.cell? ⟨b, off + i * 2 + 1, none⟩ = some (.int .i64 (l.getD i (0, 0)).2))
    (hc2 : ∀ i, i < n → w.cell? ⟨b2, off2 + i * 2, none⟩ = some (.int .i64 (l2.getD i (0, 0)).1) ∧ w.cell? ⟨b2, off2 + i * 2 + 1, none⟩ = some (.int .i64 (l2.getD i (0, 0)).2)) :
    Calls Tryz.prog 18 #[.slice (some ⟨b, off, none⟩) n cap, .slice (some ⟨b2, off2, none⟩) n cap2] w fun e w' => e = .returned (.bool (decide (l = l2))) ∧ ∃ m, w' = w.drewN m := by
  have HC : Aside (∀ i, i < n → w.cell? ⟨b, off + i * 2, none⟩ = some (.int .i64 (l.getD i (0, 0)).1) ∧ w.cell? ⟨b, off + i * 2 + 1, none⟩ = some (.int .i64 (l.getD i (0, 0)).2)) := hc
  have HC2 : Aside (∀ i, i < n → w.cell? ⟨b2, off2 + i * 2, none⟩ = some (.int .i64 (l2.getD i (0, 0)).1) ∧ w.cell? ⟨b2, off2 + i * 2 + 1, none⟩ = some (.int .i64 (l2.getD i (0, 0)).2)) := hc2
  have HL : Aside (l.length = n) := hl
  have HL2 : Aside (l2.length = n) := hl2
  clear hc hl hc2 hl2
  go_enter Tryz.func18, Tryz.ntmps18
  go_wp2
  go_loopg [5] n (fun g i wr => ∃ k m : Nat, k + g = n ∧ i = .int .i64 k ∧ wr = w.drewN m ∧ Aside (l.drop k = l2.drop k ↔ l = l2))
  case atStart => exact ⟨0, 0, by omega, rfl, rfl, by simp [Aside]⟩
  case round =>
    obtain ⟨k, m, hk, rfl, rfl, A⟩ := hrel
    by_cases hlt : k < n
    · obtain ⟨x, y, hxy⟩ : ∃ x y, l.getD k (0, 0) = (x, y) := ⟨_, _, rfl⟩
      obtain ⟨x2, y2, hxy2⟩ : ∃ x y, l2.getD k (0, 0) = (x, y) := ⟨_, _, rfl⟩
      have c0 : w.cell? ⟨b, off + k * 2, none⟩ = some (.int .i64 x) := by rw [(HC.out k hlt).1, hxy]
      have c1 : w.cell? ⟨b, off + k * 2 + 1, none⟩ = some (.int .i64 y) := by rw [(HC.out k hlt).2, hxy]
      have d0 : w.cell? ⟨b2, off2 + k * 2, none⟩ = some (.int .i64 x2) := by rw [(HC2.out k hlt).1, hxy2]
      have d1 : w.cell? ⟨b2, off2 + k * 2 + 1, none⟩ = some (.int .i64 y2) := by rw [(HC2.out k hlt).2, hxy2]
      have ed := eq_drop l l2 k (by rw [HL.out]; exact hlt) (by rw [HL2.out]; exact hlt)
      rw [hxy, hxy2, A.out] at ed
      have ED : Aside (l = l2 ↔ (x, y) = (x2, y2) ∧ l.drop (k + 1) = l2.drop (k + 1)) := ed
      clear hxy hxy2 ed A
      have hki : (k : Int) < (n : Int) := by omega
      by_cases hx : x = x2
      · have hxb : (x == x2) = true := by simp [hx]
        by_cases hy : y = y2
        · have hyb : (y == y2) = true := by simp [hy]
          have A1 : Aside (l.drop (k + 1) = l2.drop (k + 1) ↔ l = l2) := by unfold Aside; rw [ED.out]; simp [hx, hy]
          clear hx hy
          go_wp2_with fail
          go_quiet (fail)
          go_wp2
          go_roundg (gk - 1)
          case measure => omega
          case rel => exact ⟨k + 1, m + nq, by omega, by go_num, rfl, A1⟩
        · have hyb : (y == y2) = false := by simp [hy]
          have A1 : Aside (l ≠ l2) := by unfold Aside; intro e; have h := (ED.out.1 e).1; simp [hy] at h
          clear hx hy
          go_wp2_with fail
          go_quiet (fail)
          go_wp2
          go_ret
          exact ⟨ret_no A1.out, m + nq, World.drewN_drewN _ _ _⟩
      · have hxb : (x == x2) = false := by simp [hx]
        have A1 : Aside (l ≠ l2) := by unfold Aside; intro e; have h := (ED.out.1 e).1; simp [hx] at h
        clear hx
        go_wp2_with fail
        go_quiet (fail)
        go_wp2
        go_ret
        exact ⟨ret_no A1.out, m + nq, World.drewN_drewN _ _ _⟩
    · go_wp2
      go_ret
      exact ⟨ret_yes (A.out.1 (by rw [List.drop_eq_nil_of_le (by rw [HL.out]; omega), List.drop_eq_nil_of_le (by rw [HL2.out]; omega)])), m, rfl⟩

theorem same_any (a a2 : Option Addr) (n n2 cap cap2 : Nat) (l l2 : List (Int × Int)) (w : World) (h : Rd w a n l) (h2 : Rd w a2 n2 l2) (hm : n ≤ 9223372036854775807) :
    Calls Tryz.prog 18 #[.slice a n cap, .slice a2 n2 cap2] w fun e w' => e = .returned (.bool (decide (l = l2))) ∧ Below w.heap.size w w' := by
  by_cases hn : n = n2
  · subst hn
    rcases h.cases with ⟨rfl, rfl⟩ | ⟨b, off, rfl, hn, hl, hB, hc⟩
    · have e2 : l2 = [] := List.eq_nil_of_length_eq_zero h2.1
      subst e2
      refine (same_none a a2 cap cap2 w).mono ?_
      rintro e w' ⟨rfl, rfl⟩
      exact ⟨rfl, Below.refl _ _⟩
    · rcases h2.cases with ⟨rfl, rfl⟩ | ⟨b2, off2, rfl, hn2, hl2, hB2, hc2⟩
      · omega
      · refine (same_some b off b2 off2 n cap cap2 l l2 w hm hl hl2 hc hc2).mono ?_
        rintro e w' ⟨rfl, m, rfl⟩
        exact ⟨rfl, drewN_below w m⟩
  · refine (same_len a a2 n n2 cap cap2 w hn).mono ?_
    rintro e w' ⟨rfl, rfl⟩
    exact ⟨ret_no (fun e => hn (by rw [← h.1, ← h2.1, e])), Below.refl _ _⟩

theorem below2 {w a b : World} (h : Below w.heap.size w a) (k : Below a.heap.size a b) : Below w.heap.size w b := h.trans (k.mono h.size)

end Go.Proofs.YtcgpgflnihjpiafGreat

/- The valueOf of the reference. -/
namespace Go.Proofs.YtcgpgflnihjpiafGreat
open Go.RowKit

/-! ### The reference's valueOf and FindOf -/
theorem value_none (a : Option Addr) (cap : Nat) (key : Int) (w : World) :
    Calls Tryz.prog 150 #[.slice a 0 cap, .int .i64 key] w fun e w' => e = .returned (.int .i64 (-1)) ∧ w' = w := by
  go_enter Tryz.func150, Tryz.ntmps150
  go_wp2
  refine wp_loop_rounds 1 ?_
  rw [rounds_succ]
  go_wp2
  go_ret
  exact ⟨rfl, rfl⟩

set_option maxHeartbeats 1000000 in
theorem value_some (b off n cap : Nat) (l : List (Int × Int)) (key : Int) (w : World) (hn : n ≤ 40) (hl : l.length = n)
    (hc : ∀ i, i < n → w.cell? ⟨b, off + i * 2, none⟩ = some (.int .i64 (l.getD i (0, 0)).1) ∧ w.cell? ⟨b, off + i * 2 + 1, none⟩ = some (.int .i64 (l.getD i (0, 0)).2)) :
    Calls Tryz.prog 150 #[.slice (some ⟨b, off, none⟩) n cap, .int .i64 key] w fun e w' => e = .returned (.int .i64 (M.find key l)) ∧ w' = w := by
  have HC : Aside (∀ i, i < n → w.cell? ⟨b, off + i * 2, none⟩ = some (.int .i64 (l.getD i (0, 0)).1) ∧ w.cell? ⟨b, off + i * 2 + 1, none⟩ = some (.int .i64 (l.getD i (0, 0)).2)) := hc
  have HL : Aside (l.length = n) := hl
  clear hc hl
  go_enter Tryz.func150, Tryz.ntmps150
  go_wp2
  go_loopg [5] n (fun g i wr => ∃ k : Nat, k + g = n ∧ i = .int .i64 k ∧ wr = w ∧ Aside (M.find key (l.drop k) = M.find key l))
  case atStart => exact ⟨0, by omega, rfl, rfl, by simp [Aside]⟩
  case round =>
    obtain ⟨k, hk, rfl, rfl, A⟩ := hrel
    by_cases hlt : k < n
    · obtain ⟨x, y, hxy⟩ : ∃ x y, l.getD k (0, 0) = (x, y) := ⟨_, _, rfl⟩
      have c0 : wr.cell? ⟨b, off + k * 2, none⟩ = some (.int .i64 x) := by rw [(HC.out k hlt).1, hxy]
      have c1 : wr.cell? ⟨b, off + k * 2 + 1, none⟩ = some (.int .i64 y) := by rw [(HC.out k hlt).2, hxy]
      have HXY : Aside (l.getD k (0, 0) = (x, y)) := hxy
      clear hxy
      by_cases hx : x = key
      · have HX : Aside (x = key) := hx
        have hb : (x == key) = true := by simp [hx]
        clear hx
        go_wp2
        go_ret
        exact ⟨ret_int (A.out.symm.trans (M.find_here key l k (by rw [HL.out]; exact hlt) x y HXY.out HX.out)).symm, rfl⟩
      · have hb : (x == key) = false := by simp [hx]
        go_wp2
        go_roundg (gk - 1)
        case measure => omega
        case rel => exact ⟨k + 1, by omega, by go_num, rfl, by unfold Aside; rw [← A.out, M.find_step key l k (by rw [HL.out]; exact hlt) x y HXY.out hx]⟩
    · go_wp2
      go_ret
      exact ⟨ret_int (A.out.symm.trans (M.find_end key l k (by rw [HL.out]; omega))).symm, rfl⟩

theorem value_any (a : Option Addr) (n cap : Nat) (l : List (Int × Int)) (key : Int) (w : World) (h : Rd w a n l) (hn : n ≤ 40) :
    Calls Tryz.prog 150 #[.slice a n cap, .int .i64 key] w fun e w' => e = .returned (.int .i64 (M.find key l)) ∧ w' = w := by
  rcases h.cases with ⟨rfl, rfl⟩ | ⟨b, off, rfl, hn0, hl, hB, hc⟩
  · exact value_none a cap key w
  · exact value_some b off n cap l key w hn hl hc

end Go.Proofs.YtcgpgflnihjpiafGreat
