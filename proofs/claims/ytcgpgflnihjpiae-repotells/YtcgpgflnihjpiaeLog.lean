/- repo.Log. -/
import Derived.Test.YtcgpgflnihjpiaeRepo2
import Derived.Test.YtcgpgflnihjpiaeBackB
import Derived.Test.YtcgpgflnihjpiaeAbove1
namespace Go.Proofs.Ytcgpgflnihjpiae
open Go.RowKit Go.Shelf
attribute [local go_sem] Oper.semAt_some

theorem M.log_no {C : List M.Com} {H : List M.Hd} {s : ByteArray} (h : M.hchk C H s ≠ 0) : M.logL C H s = [] := by unfold M.logL; rw [if_pos h]

theorem lgKeeps {B : Nat} {X Y : World} (hb : Below X.heap.size X Y) : KeepsFrom B X Y := ⟨hb.size, fun k _ _ hk _ => (hb.block k (Array.getElem?_eq_some_iff.1 hk).1).trans hk⟩
theorem lgOther {W W' : World} {base : Nat} {e : TypeId} {size : Nat} {v : Value} {n : Nat} {xs : List Value} (h : W.ownsRow base e size v n xs) {row : Option Nat} (hg : W.grownBy W' row)
    (hrow : ∀ r, row = some r → ∀ cur, W.heap[r]? ≠ some (.cells cur e (0, 0))) : W'.ownsRow base e size v n xs := by
  refine h.kept hg ?_
  rcases h.2 with ⟨rfl, _⟩ | ⟨g, cap, cur, rfl, _, hgb, _⟩
  · exact .inl rfl
  · exact .inr fun e' => hrow g (by simpa [Value.ownBlock] using e'.symm) cur hgb

/-- What stands between two rounds of the loop of Log. -/
def LI (w : World) (A : Nat) (B : List Bool) (pre : List Nat) (W : World) : Prop :=
  (∃ v, Boxed W A 23 v ∧ OwnI W (A + 2) v (picked B pre)) ∧ Below w.heap.size w W ∧ A + 2 ≤ W.heap.size
theorem LI.from {w : World} {A : Nat} {B : List Bool} {pre : List Nat} {X Y : World} {row : Option Nat} (hA : w.heap.size ≤ A) (h : LI w A B pre X) (hg : X.grownBy Y row) (hr : ∀ k, row = some k → A + 2 ≤ k ∧ ∃ o : Obj, X.heap[k]? = some o ∧ o.isCells = false) : LI w A B pre Y := by
  obtain ⟨⟨v, h1, h2⟩, h3, h4⟩ := h
  refine ⟨⟨v, h1.kept hg (fun e => ?_), lgOther h2 hg fun r e cur he => ?_⟩, h3.grown hg (by omega) (fun k e => ?_), Nat.le_trans h4 hg.size⟩
  · have := (hr _ e.symm).1; omega
  · obtain ⟨_, o, ho, hc⟩ := hr r e
    rw [he] at ho; cases ho; cases hc
  · have := (hr _ e).1; omega

set_option maxRecDepth 100000 in
set_option maxHeartbeats 8000000 in
theorem log_good (a : Option Addr) (n cap : Nat) (C : List M.Com) (a2 : Option Addr) (n2 cap2 : Nat) (H : List M.Hd) (s : ByteArray) (w : World) (hC : Cm w a n C) (hn : n ≤ 9223372036854775807) (hH : Hs w a2 n2 H) (hn2 : n2 ≤ 9223372036854775807) (hz : M.hchk C H s = 0) :
    Calls Try.prog 15 #[.agg #[.slice a n cap, .slice a2 n2 cap2], .string s] w fun e w' => ∃ v, e = .returned (.tuple #[v, .int .i64 0]) ∧ OwnI w' w.heap.size v (M.logL C H s) ∧ Below w.heap.size w w' := by
  obtain ⟨p, hp⟩ : ∃ p, p = w.heap.size := ⟨_, rfl⟩
  have I1 := InBox.new w a n cap C a2 n2 cap2 H hC hH
  obtain ⟨W, hW⟩ : ∃ W, W = w.alloc (.cells #[.slice a n cap, .slice a2 n2 cap2] 40) := ⟨_, rfl⟩
  have hb : Below w.heap.size w W := by rw [hW]; exact (Below.refl _ _).alloc (Nat.le_refl _) _
  rw [← hW, ← hp] at I1
  have q0 := I1.c0
  have q1 := I1.c1
  have HK := head_any a n cap C a2 n2 cap2 H s W I1.cm hn I1.hs hn2
  have hin := M.hat_in hz
  rw [hC.1] at hin
  obtain ⟨x, hx⟩ : ∃ x : Nat, M.hat C H s = (x : Int) := ⟨(M.hat C H s).toNat, by omega⟩
  rw [hz, hx] at HK
  rw [hx] at hin
  have hxn : x < n := by omega
  have hR := (M.rchk_zero (M.hchk_zero hz).1).1
  have hn14 : n ≤ 14 := by rw [← hC.1]; exact (M.dchk_zero hR).1
  obtain ⟨B, hB⟩ : ∃ B, B = M.above C x := ⟨_, rfl⟩
  have HBl : Aside (B.length = n) := by unfold Aside; rw [hB, M.above_len]; exact hC.1
  have E : Aside (M.logL C H s = M.fallF B n) := by unfold Aside M.logL; rw [if_neg (by rw [hz]; simp), hx, hC.1, hB]; rfl
  have HI : Aside (InBox W p a n cap C a2 n2 cap2 H) := I1
  have HKK : Hid (Calls Try.prog 14 #[.agg #[.slice a n cap, .slice a2 n2 cap2], .string s] W fun e w' => e = .returned (.tuple #[.int .i64 x, .int .i64 0]) ∧ Below W.heap.size W w' ∧ w'.cell? ⟨p, 0, none⟩ = some (.slice a n cap)) := HK.mono fun e w' ⟨h1, h2⟩ => ⟨h1, h2, (HI.out.below h2).c0⟩
  have HAb : Hid (∀ w1, Below W.heap.size W w1 → Calls Try.prog 13 #[.slice a n cap, .int .i64 x] w1 fun e w' => ∃ g, e = .returned (.tuple #[.slice (some ⟨g, 0, none⟩) n n, .int .i64 0]) ∧ w1.heap.size ≤ g ∧ Bo w' g B ∧ Below w1.heap.size w1 w') := fun w1 h => by rw [hB]; exact dabove_in a n cap C x w1 (HI.out.below h).cm hR hxn
  have HW : Hid (W = w.alloc (.cells #[.slice a n cap, .slice a2 n2 cap2] 40)) := hW
  have HP : Aside (p = w.heap.size) := hp
  obtain ⟨i0, hi, hz0, hz1, hz2⟩ := info_parts infoInt
  clear hW HK hx hp I1 hC hH hB hR hin hz
  refine (callsIn_wide (n := 9)).1 ?_
  refine callsIn_of_wp_marks Try.func15 rfl trivial ?_ rfl
  simp only [Try.ntmps15, List.size_toArray, List.length_cons, List.length_nil, Nat.reduceAdd, Nat.reduceSub, Array.replicate_succ, Array.replicate_zero, List.push_toArray, List.append_toArray, List.nil_append, List.cons_append]
  gi_wp2_with fail
  rw [← HW.out, ← HP.out]
  gi_wp2_with (first | (refine ⟨trivial, ?_⟩; gi_at_call 14; refine (callsIn_wide.2 HKK.out).mono ?_; rintro e w1 ⟨rfl, b1, d0⟩) | (refine ⟨trivial, ?_⟩; gi_at_call 13; refine (callsIn_wide.2 (HAb.out _ b1)).mono ?_; rintro e w2 ⟨g, rfl, hg, hbo, b2⟩) | (refine ⟨trivial, ?_⟩; gi_at_call 32; refine (callsIn_wide.2 (bback_any _ rfl _)).mono ?_; rintro e w3 ⟨rfl, rfl⟩))
  have bw2 : Below w.heap.size w w2 := dbelow2 (hb.trans (b1.mono hb.size)) b2
  obtain ⟨A, hA⟩ : ∃ A, A = w2.heap.size := ⟨_, rfl⟩
  obtain ⟨X0, hX0⟩ : ∃ X0, X0 = (w2.alloc (.cells #[.slice none 0 0] 23)).alloc (.cells #[.slice (some ⟨g, 0, none⟩) n n] 34) := ⟨_, rfl⟩
  have hsz : X0.heap.size = A + 2 := by rw [hX0, hA]; simp
  have hwx : Below A w2 X0 := by rw [hX0, hA]; exact ((Below.refl _ _).alloc (Nat.le_refl _) _).alloc (by simp) _
  have hbx : Boxed X0 A 23 (.slice none 0 0) := by rw [hX0, hA]; exact (Boxed.new w2 _ _).alloc _
  have hcp : X0.cell? ⟨A + 1, 0, none⟩ = some (.slice (some ⟨g, 0, none⟩) n n) := by rw [hX0, hA]; simp [go_sem]
  have hwA : w.heap.size ≤ A := by rw [hA]; exact bw2.size
  have hbw : Below w.heap.size w X0 := bw2.trans (hwx.mono hwA)
  have hwx' : Below w2.heap.size w2 X0 := by rw [← hA]; exact hwx
  rw [← hX0, ← hA]
  have HBo : Aside (Bo w2 g B) := hbo
  have HA : Aside (A = w2.heap.size) := hA
  clear hX0 hbo b1 b2 d0 hA HKK HAb
  refine wpIn_rangeFunc_ownG (α := Nat) rfl (by omega) (gf := 47) (lb := #[.pointer (some ⟨A + 1, 0, none⟩)]) rfl trivial (enters_of Try.func47 (by kernel_rfl) rfl)
    (bback_stops 8 (A + 1) g n n B w2 X0 (by omega) HBo.out HBl.out (by omega) hwx' hcp (by omega)) (fun h k => KeepQ.trans h k) (fun W l o o' hl h h1 h2 => ⟨belowK_b (w := X0) (by have := HA.out; omega) W l o o' hl h h1 h2, World.putObj_heap_other (by omega)⟩) (Below.refl _ _) (fun _ => rfl)
    (fun pre W => LI w A B pre W) (fun _ _ _ => False) ?hI (fun _ _ _ _ _ hs _ _ => hs) ⟨⟨_, hbx, OwnI.nil _ _⟩, hbw, by omega⟩
    (fun y => { tmps := #[.agg #[.slice a n cap, .slice a2 n2 cap2], .string s, .pointer (some ⟨p, 0, none⟩), undef, .slice none 0 0, .int .i64 0, .int .i64 x, .int .i64 0, .slice (some ⟨g, 0, none⟩) n n, .pointer (some ⟨A, 0, none⟩), .int .i64 (y : Int), .bool (B.getD y false), .tuple #[.int .i64 x, .int .i64 0], .agg #[.slice a n cap, .slice a2 n2 cap2], .string s, .tuple #[.int .i64 x, .int .i64 0], .int .i64 x, .int .i64 0, .int .i64 0, .bool false, undef, .tuple #[.slice (some ⟨g, 0, none⟩) n n, .int .i64 0], .pointer (some ⟨p, 0, none⟩), .slice a n cap, .int .i64 x, .tuple #[.slice (some ⟨g, 0, none⟩) n n, .int .i64 0], .slice (some ⟨g, 0, none⟩) n n, .int .i64 0, .int .i64 0, .bool false, undef, .slice (some ⟨g, 0, none⟩) n n, .func (.func 47) #[] #[.pointer (some ⟨A + 1, 0, none⟩)], .int .i64 (y : Int), .bool (B.getD y false), undef, undef, undef, undef, undef, undef], defers := [] }) ?assign ?body ?done ?stop
  case hI =>
    intro s X Y row h hg hr
    exact h.from hwA hg (by rw [hsz] at hr; exact hr)
  case assign =>
    intro lp x W K hK
    gi_wp2
    exact hK
  case body =>
    rintro lp pre y W ⟨⟨v, hv, ho⟩, hbel, hWA⟩ hlt
    obtain ⟨t, ht⟩ : ∃ t, B.getD y false = t := ⟨_, rfl⟩
    have hpm := picked_more B pre y
    rw [ht] at hpm ⊢
    cases t with
    | false =>
      rw [if_neg (by simp), List.append_nil] at hpm
      gi_wp2
      exact ⟨KeepsFrom.refl _ _, KeepQ.refl _ _ _, ⟨v, hv, by rw [hpm]; exact ho⟩, hbel, hWA⟩
    | true =>
      rw [if_pos rfl] at hpm
      have hcv := hv.cell
      have hfv := hv.frozen
      have hpl := picked_len B pre
      have HV : Aside (Boxed W A 23 v) := hv
      have HO : Aside (OwnI W (A + 2) v (picked B pre)) := ho
      have HPm : Aside (picked B (pre ++ [y]) = picked B pre ++ [(y : Int)]) := hpm
      have ho' : (W.alloc (.cells #[.int .i64 (y : Int)] 3)).ownsRow (A + 2) 3 1 v (picked B pre).length ((picked B pre).map (Value.int .i64)) := World.ownsRow.alloc ho _
      have HO' : Aside ((W.alloc (.cells #[.int .i64 (y : Int)] 3)).ownsRow (A + 2) 3 1 v (picked B pre).length ((picked B pre).map (Value.int .i64))) := ho'
      obtain ⟨L, hL⟩ : ∃ L, L = (picked B pre).length := ⟨_, rfl⟩
      rw [← hL] at HO' hpl
      have HLL : Aside (L = (picked B pre).length) := hL
      clear ho' hpm ht hv ho hL
      gi_wp2_with (gi_at_builtin; refine wpListIn_append_own _ rfl _ _ 23 rfl (A + 2) 3 i0 (.int .i64 0) 1 8 Try.underlying23 hi hz0 hz1 hz2 rfl (by decide) v L ((picked B pre).map (Value.int .i64)) rfl HO'.out ⟨W.heap.size, 0, none⟩ 1 1 [.int .i64 (y : Int)] rfl rfl (cell_one_new _ _ _) (by simp [Value.oneCell']) (by simp [maxLen]; omega) (by omega) (by simp; omega) ?_)
      intro v' W3 hown' hgrow _
      obtain ⟨g', cap', rfl⟩ := ownsRow_succ hown'
      have hown0 : W3.ownsRow A 3 1 (.slice (some ⟨g', 0, none⟩) (L + 1) cap') (L + 1) ((picked B pre).map (Value.int .i64) ++ [.int .i64 (y : Int)]) := by
        obtain ⟨h1, h2⟩ := hown'
        refine ⟨h1, ?_⟩
        rcases h2 with h2 | ⟨g, cap, cur, hv, hg, r⟩
        · exact Or.inl h2
        · exact Or.inr ⟨g, cap, cur, hv, by omega, r⟩
      obtain ⟨k1, k2, k3, k4, k5⟩ := HV.out.appended (n₀ := A) (by decide) (OwnI.mono HO.out (by omega)) (by omega) (Nat.le_refl _) hown0 hgrow
      have hc3 := k1.cell
      have hf3 := k1.frozen
      have hs3 : W.heap.size ≤ W3.heap.size := by have := hgrow.size; simp at this; omega
      have HEnd : Aside (KeepsFrom X0.heap.size W (W3.setCell ⟨A, 0, none⟩ (.slice (some ⟨g', 0, none⟩) (L + 1) cap')) ∧ KeepQ w2.heap.size (A + 1) W (W3.setCell ⟨A, 0, none⟩ (.slice (some ⟨g', 0, none⟩) (L + 1) cap')) ∧ LI w A B (pre ++ [y]) (W3.setCell ⟨A, 0, none⟩ (.slice (some ⟨g', 0, none⟩) (L + 1) cap'))) := by
        refine ⟨k4.from _, ⟨by rw [← HA.out]; exact k5, ?_⟩, ⟨_, k2, ?_⟩, hbel.trans (k5.mono hwA), by simp [World.setCell]; omega⟩
        · rw [Below.heap_setCell _ _ _ (A + 1) (by show A + 1 ≠ A; omega), hgrow.block (A + 1) (by simp; omega) (fun e => ?_), Below.heap_alloc _ _ _ (by omega)]
          have := (World.ownsRow.lt HO.out _ e.symm).1
          omega
        · unfold OwnI
          rw [HPm.out, List.map_append, List.length_append, ← HLL.out]
          refine lgOther hown' (grownBy_setCell' W3 A _) fun r e cur he => ?_
          cases e
          rw [show W3.heap[A]? = _ from k1] at he
          simp at he
      clear k1 k2 k3 k4 k5 hown' hown0 hgrow
      gi_wp2
      exact HEnd.out
  case done =>
    rintro D ys W hD hys ⟨⟨v, hv, ho⟩, hbel, hWA⟩ hKd
    have hcv := hv.cell
    gi_wp2
    refine ⟨by simp, .inl ⟨_, _, rfl, run_takeDeferred hKd, ?_⟩⟩
    refine ⟨.tuple #[v, .int .i64 0], by simp [results, Try.results15, go_sem], v, rfl, ?_, ?_⟩
    · rw [E.out, ← picked_fall, ← hys]
      refine OwnI.mono (lgOther ho (grownBy_putObj' W D _) fun r e cur he => ?_) (by omega)
      cases e; rw [he] at hKd; cases hKd
    · exact hbel.trans (belowK_b (w := w) (Nat.le_refl _) W D _ _ (by omega) hKd rfl rfl)
  case stop =>
    rintro D c pre W _ _ h _
    exact h.elim

theorem log_bad (a : Option Addr) (n cap : Nat) (C : List M.Com) (a2 : Option Addr) (n2 cap2 : Nat) (H : List M.Hd) (s : ByteArray) (w : World) (hC : Cm w a n C) (hn : n ≤ 9223372036854775807) (hH : Hs w a2 n2 H) (hn2 : n2 ≤ 9223372036854775807) (hz : M.hchk C H s ≠ 0) :
    Calls Try.prog 15 #[.agg #[.slice a n cap, .slice a2 n2 cap2], .string s] w fun e w' => e = .returned (.tuple #[.slice none 0 0, .int .i64 (M.hchk C H s)]) ∧ Below w.heap.size w w' := by
  obtain ⟨p, hp⟩ : ∃ p, p = w.heap.size := ⟨_, rfl⟩
  have I1 := InBox.new w a n cap C a2 n2 cap2 H hC hH
  obtain ⟨W, hW⟩ : ∃ W, W = w.alloc (.cells #[.slice a n cap, .slice a2 n2 cap2] 40) := ⟨_, rfl⟩
  have hb : Below w.heap.size w W := by rw [hW]; exact (Below.refl _ _).alloc (Nat.le_refl _) _
  rw [← hW, ← hp] at I1
  have q0 := I1.c0
  have q1 := I1.c1
  have HK := head_any a n cap C a2 n2 cap2 H s W I1.cm hn I1.hs hn2
  rw [M.hat_zero hz] at HK
  obtain ⟨c, hc⟩ : ∃ c, c = M.hchk C H s := ⟨_, rfl⟩
  rw [← hc] at HK hz ⊢
  have hne : (c != 0) = true := by simp [hz]
  have HKK : Hid (Calls Try.prog 14 #[.agg #[.slice a n cap, .slice a2 n2 cap2], .string s] W fun e w' => e = .returned (.tuple #[.int .i64 0, .int .i64 c]) ∧ Below W.heap.size W w') := HK
  have HW : Hid (W = w.alloc (.cells #[.slice a n cap, .slice a2 n2 cap2] 40)) := hW
  have HP : Aside (p = w.heap.size) := hp
  clear hW HK hp I1 hC hH hc hz
  go_enter Try.func15, Try.ntmps15
  go_wp2_with fail
  rw [← HW.out, ← HP.out]
  go_wp2_with fail
  refine HKK.out.mono ?_
  rintro e w1 ⟨rfl, b1⟩
  go_wp2
  go_ret2
  exact ⟨rfl, hb.trans (b1.mono hb.size)⟩
theorem log_any (a : Option Addr) (n cap : Nat) (C : List M.Com) (a2 : Option Addr) (n2 cap2 : Nat) (H : List M.Hd) (s : ByteArray) (w : World) (hC : Cm w a n C) (hn : n ≤ 9223372036854775807) (hH : Hs w a2 n2 H) (hn2 : n2 ≤ 9223372036854775807) :
    Calls Try.prog 15 #[.agg #[.slice a n cap, .slice a2 n2 cap2], .string s] w fun e w' => ∃ v, e = .returned (.tuple #[v, .int .i64 (M.hchk C H s)]) ∧ OwnI w' w.heap.size v (M.logL C H s) ∧ Below w.heap.size w w' := by
  by_cases hz : M.hchk C H s = 0
  · rw [hz]; exact log_good a n cap C a2 n2 cap2 H s w hC hn hH hn2 hz
  · refine (log_bad a n cap C a2 n2 cap2 H s w hC hn hH hn2 hz).mono ?_
    rintro e w' ⟨rfl, hb⟩
    exact ⟨_, rfl, by rw [M.log_no hz]; exact OwnI.nil _ _, hb⟩
end Go.Proofs.Ytcgpgflnihjpiae
