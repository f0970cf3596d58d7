/- edit.lastKey, first, still. -/
import Derived.Test.YtcgpgflnihjpiacEdit0
import Derived.Test.YtcgpgflnihjpiacSeek0
import Derived.Test.YtcgpgflnihjpiacOf
import Derived.Maps.OwnSet
namespace Go.Proofs.Ytcgpgflnihjpiac
open Go.RowKit Go.Shelf Go.Maps

theorem lastKey_any (b off m cap : Nat) (l : List (Int × Int)) (w : World) (h : Rd w (some ⟨b, off, none⟩) (m + 1) l) (hm : m ≤ 1000) :
    Calls Try.prog 83 #[.slice (some ⟨b, off, none⟩) (m + 1) cap] w fun e w' => e = .returned (.int .i64 (M.lastK l)) ∧ Below w.heap.size w w' := by
  rcases h.cases with ⟨e, _⟩ | ⟨b', off', e, hn, hl, hB, hc⟩
  · omega
  obtain ⟨rfl, rfl⟩ : b = b' ∧ off = off' := by simpa using e
  have hx := (hc m (by omega)).1
  have e2 : M.lastK l = (l.getD m (0, 0)).1 := by unfold M.lastK; rw [hl, Nat.add_sub_cancel]
  rw [e2]
  obtain ⟨x, hxx⟩ : ∃ x, x = (l.getD m (0, 0)).1 := ⟨_, rfl⟩
  rw [← hxx] at hx ⊢
  have hmw : IntKind.i64.wrap (m : Int) = (m : Int) := by rw [IntKind.wrap_i64]; omega
  clear hxx e2 hc hl e h
  go_enter Try.func83, Try.ntmps83
  go_wp2_with fail
  go_ret
  exact ⟨rfl, Below.refl _ _⟩

theorem OwnLL.head {w : World} {m : Nat} {v : Value} {LL : List (List (Int × Int))} (h : OwnLL w m v LL) (hp : 0 < LL.length) : ∃ g cap ua un uc, v = .slice (some ⟨g, 0, none⟩) LL.length cap ∧ w.cell? ⟨g, 0, none⟩ = some (.slice ua un uc) ∧ Own w m (.slice ua un uc) (LL.getD 0 []) := by
  obtain ⟨vals, h1, h2⟩ := h
  have h0 := h1
  obtain ⟨h1, h3⟩ := h1
  rcases h3 with ⟨rfl, hn⟩ | ⟨g, cap, cur, rfl, hb, hh, hc, hm, hs, hx⟩
  · omega
  · have hil : 0 < vals.length := by omega
    obtain ⟨u, hu⟩ : ∃ u, vals[0]? = some u := ⟨_, List.getElem?_eq_getElem hil⟩
    have ho := h2 0 u hu
    obtain ⟨ua, un, uc, rfl⟩ := own_shape ho
    exact ⟨g, cap, ua, un, uc, rfl, by have := World.ownsRow.cellAt h0 0 (by omega); rw [this]; exact hu, ho⟩

set_option maxHeartbeats 1000000 in
theorem efirst_some (b off n cap : Nat) (l : List (Int × Int)) (k : Nat) (w : World) (h : Sl w (some ⟨b, off, none⟩) n cap l) (hn : 0 < n) (h0 : M.chk l = 0) (hk : k ≤ 9) :
    Calls Try.prog 82 #[.slice (some ⟨b, off, none⟩) n cap, .int .i64 k] w fun e w' => ∃ a m c, e = .returned (.tuple #[.slice a m c, .int .i64 0]) ∧ m = M.len k l ∧ Own w' w.heap.size (.slice a m c) (l.take (M.len k l)) ∧ Below w.heap.size w w' := by
  have hn40 : n ≤ 40 := by rw [← h.1.1]; exact ((M.chk_zero l).1 h0).1
  have hB : b < w.heap.size := by
    rcases h.1.cases with ⟨e, _⟩ | ⟨b', off', e, _, _, hB, _⟩
    · omega
    · obtain ⟨rfl, rfl⟩ : b = b' ∧ off = off' := by simpa using e
      exact hB
  obtain ⟨q, hq⟩ : ∃ q, q = min n 6 := ⟨_, rfl⟩
  have hq0 : 0 < q := by omega
  have hqn : q ≤ n := by omega
  have htk : l.take q = l.take 6 := by
    rw [hq]
    by_cases h6 : n ≤ 6
    · rw [Nat.min_eq_left h6, List.take_of_length_le (by rw [h.1.1]; exact Nat.le_refl _), List.take_of_length_le (by rw [h.1.1]; exact h6)]
    · rw [Nat.min_eq_right (by omega)]
  have hch : M.chk (l.take q) = 0 := by
    have hz := (M.chk_zero l).1 h0
    exact (M.chk_zero _).2 ⟨by rw [List.length_take]; omega, fun r hr => hz.2.1 r (List.mem_of_mem_take hr), hz.2.2.sublist (List.take_sublist _ _)⟩
  have HC := cut_some b off q cap (l.take q) (k : Int) w (h.1.take q hqn) (by have := h.2.1; omega) h.2.2.1 hch (by omega) (by omega) hB
  have hne : l.take q ≠ [] := fun e => by have := congrArg List.length e; rw [List.length_take, h.1.1] at this; simp at this; omega
  have hst := M.cut_step (k : Int) (l.take q) hne
  rw [htk, M.first_six] at hst
  obtain ⟨LL, hLL⟩ : ∃ LL, LL = M.cut (k : Int) (l.take q) := ⟨_, rfl⟩
  rw [← hLL] at HC
  rw [← htk, ← hLL] at hst
  have HC1 : Aside (Calls Try.prog 38 #[.slice (some ⟨b, off, none⟩) q cap, .int .i64 k] w fun e w' => ∃ la ln lc ua un uc, e = .returned (.tuple #[.slice (some ⟨la, 0, none⟩) ln lc, .int .i64 0]) ∧ 0 < ln ∧ w'.cell? ⟨la, 0, none⟩ = some (.slice ua un uc) ∧ Hid (un = M.len k l ∧ Own w' w.heap.size (.slice ua un uc) (l.take (M.len k l))) ∧ Below w.heap.size w w') := by
    refine HC.mono ?_
    rintro e w' ⟨v, rfl, ⟨vals, hrow, hel⟩, hb⟩
    have hlp : 0 < LL.length := by rw [hst]; simp
    obtain ⟨g, c, ua, un, uc, rfl, hcell, ho⟩ := OwnLL.head ⟨vals, hrow, hel⟩ hlp
    have e0 : LL.getD 0 [] = l.take (M.len k l) := by rw [hst]; rfl
    rw [e0] at ho
    obtain ⟨ua', uc', e1, _⟩ := Own.sl ho
    have e2 : un = (l.take (M.len k l)).length := by simpa using (Value.slice.inj e1).2.1
    have hlen := M.len_pos (k : Int) l (fun e => by rw [e] at h; have := h.1.1; simp at this; omega)
    exact ⟨g, _, c, ua, un, uc, rfl, hlp, hcell, ⟨by rw [e2, List.length_take]; omega, ho⟩, hb⟩
  have hqi2 : (q : Int) ≤ (cap : Int) := by have := h.2.1; omega
  have hcm := h.2.2.1
  unfold maxLen at hcm
  clear HC hst hLL hne hch htk h h0
  by_cases h6 : n ≤ 6
  · obtain rfl : q = n := by omega
    clear hq
    go_enter Try.func82, Try.ntmps82
    go_wp2_with fail
    refine HC1.out.mono ?_
    rintro e w1 ⟨la, ln, lc, ua, un, uc, rfl, hln, hcell, HO, b1⟩
    go_wp2
    go_ret2
    exact ⟨ua, un, uc, rfl, HO.out.1, HO.out.2, b1⟩
  · obtain rfl : q = 6 := by omega
    clear hq
    go_enter Try.func82, Try.ntmps82
    go_wp2_with fail
    refine HC1.out.mono ?_
    rintro e w1 ⟨la, ln, lc, ua, un, uc, rfl, hln, hcell, HO, b1⟩
    go_wp2
    go_ret2
    exact ⟨ua, un, uc, rfl, HO.out.1, HO.out.2, b1⟩

/-- A number from 0 to n, as an element of a map. -/
def RV (n : Nat) (v : Value) : Option (DataW Unit × List MemPlace) :=
  match v with
  | .int .i64 c => if 0 ≤ c ∧ c ≤ n then some (.lit (.int .i64 c), []) else none
  | _ => none
theorem RV_mk {n : Nat} {c : Int} (h0 : 0 ≤ c) (h1 : c ≤ n) : RV n (.int .i64 c) = some (.lit (.int .i64 c), []) := by unfold RV; simp [h0, h1]
theorem RV_inv {n : Nat} {v : Value} {x : DataW Unit × List MemPlace} (h : RV n v = some x) : ∃ c : Nat, v = .int .i64 (c : Int) ∧ c ≤ n := by
  unfold RV at h
  split at h
  · rename_i c
    split at h
    · rename_i hc
      obtain ⟨d, rfl⟩ := Int.eq_ofNat_of_zero_le hc.1
      exact ⟨d, rfl, by omega⟩
    · cases h
  · cases h
theorem RV_at {n : Nat} {v : Value} {d : DataW Unit} {ps : List MemPlace} (h : RV n v = some (d, ps)) : ∃ c : Nat, v = .int .i64 (c : Int) ∧ c ≤ n ∧ d = .lit (.int .i64 c) := by
  obtain ⟨c, rfl, hc⟩ := RV_inv h
  rw [RV_mk (by omega) (by omega)] at h
  have := (Prod.mk.inj (Option.some.inj h)).1
  exact ⟨c, rfl, hc, this.symm⟩
theorem RV_eq {n c : Nat} {v : Value} {d : DataW Unit} {ps : List MemPlace} (h : RV n v = some (d, ps)) (hd : d = .lit (.int .i64 c)) : v = .int .i64 (c : Int) := by
  obtain ⟨c', rfl, _, e⟩ := RV_at h
  rw [hd] at e
  have : (c : Int) = (c' : Int) := by simpa using e
  rw [this]
theorem klaw : Keyed Try.prog 3 := int_keyed Try.underlying3
theorem zeroInt (w : World) : (zeroValue 3).run Try.prog w = .ok (.int .i64 0) w := by kernel_rfl

/-- A level as it was ahead of the edits: its chunks are cut from rows; a map with numbers from 0 to how many they are. -/
def Old (w : World) (ca : Option Addr) (cn cc B : Nat) (k : Nat) (LLo : List (List (Int × Int))) : Prop :=
  LvS w ca cn cc LLo ∧ cn ≤ 40 ∧ (∃ lo, LLo = M.cut (k : Int) lo) ∧ (∀ c ∈ LLo, M.chk c = 0) ∧ ∃ m D, w.ownsMap Try.prog 3 (RV cn) B m D
theorem Old.below {w w' : World} {ca : Option Addr} {cn cc B k : Nat} {LLo : List (List (Int × Int))} (h : Old w ca cn cc B k LLo) (hb : Below w.heap.size w w') : Old w' ca cn cc B k LLo := by
  obtain ⟨h1, h2, h3, h4, m, D, h5⟩ := h
  exact ⟨h1.below hb, h2, h3, h4, m, D, h5.kept (grown_none hb) (by simp)⟩

set_option maxRecDepth 100000 in
set_option maxHeartbeats 4000000 in
theorem still_any (ca : Option Addr) (cn cc B k : Nat) (LLo : List (List (Int × Int))) (en : Int) (b off n cap : Nat) (l : List (Int × Int)) (w : World) (hold : Old w ca cn cc B k LLo) (h : Sl w (some ⟨b, off, none⟩) n cap l) (he0 : -1 ≤ en) (he1 : en ≤ 99) :
    Calls Try.prog 81 #[.agg #[.slice ca cn cc, .map (some B)], .int .i64 en, .slice (some ⟨b, off, none⟩) n cap] w fun e w' =>
      (e = .returned (.slice none 0 0) ∨ ∃ ub uo um uc, e = .returned (.slice (some ⟨ub, uo, none⟩) um uc) ∧ um = M.len k l ∧ Own w' w.heap.size (.slice (some ⟨ub, uo, none⟩) um uc) (l.take (M.len k l))) ∧ Below w.heap.size w w' := by
  obtain ⟨hLv, hcn, ⟨lo, hlo⟩, hchk, m, D, hown⟩ := hold
  have hkey : keyOf Try.prog 3 (.int .i64 en) = some (.int .i64 en) := keyOf_int_mk Try.underlying3 (WalkArith.wf_i64 (by omega))
  have hb0 : Below w.heap.size w (w.alloc (.cells #[.slice ca cn cc, .map (some B)] 87)) := (Below.refl _ _).alloc (Nat.le_refl _) _
  have HKey : Aside (keyOf Try.prog 3 (.int .i64 en) = some (.int .i64 en)) := hkey
  have HM : Aside ((w.alloc (.cells #[.slice ca cn cc, .map (some B)] 87)).ownsMap Try.prog 3 (RV cn) B m D) := hown.alloc _
  have HLv : Aside (LvS w ca cn cc LLo) := hLv
  have HLo : Aside (LLo = M.cut (k : Int) lo) := hlo
  have HChk : Aside (∀ c ∈ LLo, M.chk c = 0) := hchk
  have HL : Aside (Sl w (some ⟨b, off, none⟩) n cap l) := h
  have hcl := h.2.1
  have hcm := h.2.2.1
  unfold maxLen at hcm
  obtain ⟨t, ht⟩ : ∃ t, t = Maps.has D (.int .i64 en) := ⟨_, rfl⟩
  have HT : Aside (t = Maps.has D (.int .i64 en)) := ht
  obtain ⟨c, hc, HAt⟩ : ∃ c : Nat, c ≤ cn ∧ Aside (D.atKey (.int .i64 en) (.lit (.int .i64 0)) = .lit (.int .i64 c)) := by
    obtain ⟨v, ps, _, hv⟩ := HM.out.look_ok klaw Try.underlying85 (zeroInt _) (zd := .lit (.int .i64 0)) (zp := []) (RV_mk (by omega) (by omega)) HKey.out
    obtain ⟨c, _, h2, h3⟩ := RV_at hv
    exact ⟨c, h2, h3⟩
  clear ht hkey hown hLv hlo hchk h
  cases t with
  | false =>
    go_enter Try.func81, Try.ntmps81
    go_wp2_with (at_lookup; refine wpList_lookup_own_ok _ rfl _ _ 85 rfl 3 3 klaw Try.underlying85 (RV cn) (zeroInt _) (.lit (.int .i64 0)) [] (RV_mk (by omega) (by omega)) B m D rfl HM.out (.int .i64 en) (.int .i64 en) rfl HKey.out ?_; intro v ps hv; obtain rfl := RV_eq hv HAt.out; rw [← HT.out]; clear hv)
    go_ret
    exact ⟨Or.inl rfl, hb0⟩
  | true =>
    by_cases hcc : c = cn
    · have hcb : ((c : Int) == (cn : Int)) = true := by simp [hcc]
      clear hcc
      go_enter Try.func81, Try.ntmps81
      go_wp2_with (at_lookup; refine wpList_lookup_own_ok _ rfl _ _ 85 rfl 3 3 klaw Try.underlying85 (RV cn) (zeroInt _) (.lit (.int .i64 0)) [] (RV_mk (by omega) (by omega)) B m D rfl HM.out (.int .i64 en) (.int .i64 en) rfl HKey.out ?_; intro v ps hv; obtain rfl := RV_eq hv HAt.out; rw [← HT.out]; clear hv)
      go_ret
      exact ⟨Or.inl rfl, hb0⟩
    · obtain ⟨cm, rfl⟩ : ∃ cm, cn = cm + 1 := ⟨cn - 1, by omega⟩
      have hcb : ((c : Int) == ((cm : Int) + 1)) = false := by simp; omega
      have hlt : c < cm + 1 := by omega
      have hlti : (c : Int) < (cm : Int) + 1 := by omega
      clear hcc
      obtain ⟨cb, co, rfl⟩ : ∃ b o, ca = some ⟨b, o, none⟩ := by
        rcases HLv.out.1.2 with e | ⟨b', o', e, _⟩
        · omega
        · exact ⟨b', o', e⟩
      obtain ⟨hcB, hcells⟩ := HLv.out.1.at (by omega)
      obtain ⟨xa, xn, xc, q1, s1⟩ := hcells c hlt
      obtain ⟨x, hx⟩ : ∃ x, x = LLo.getD c [] := ⟨_, rfl⟩
      rw [← hx] at s1
      have hcl' : c < LLo.length := by rw [HLv.out.1.1]; exact hlt
      have hxne : x ≠ [] := by rw [hx, HLo.out]; exact M.cut_ne _ _ _ (by rw [← HLo.out]; exact M.at_mem hcl')
      have hx40 : xn ≤ 40 := by rw [← s1.1.1]; exact ((M.chk_zero _).1 (HChk.out x (by rw [hx]; exact M.at_mem hcl'))).1
      obtain ⟨xb, xo, rfl⟩ : ∃ b o, xa = some ⟨b, o, none⟩ := by
        rcases s1.1.cases with ⟨_, e⟩ | ⟨xb, xo, e, _⟩
        · exact absurd e hxne
        · exact ⟨xb, xo, e⟩
      obtain ⟨W0, hW0⟩ : ∃ W0, W0 = w.alloc (.cells #[.slice (some ⟨cb, co, none⟩) (cm + 1) cc, .map (some B)] 87) := ⟨_, rfl⟩
      have hq0 : W0.cell? ⟨cb, co + c, none⟩ = some (.slice (some ⟨xb, xo, none⟩) xn xc) := by rw [hW0]; exact (hb0.cell (p := ⟨cb, co + c, none⟩) hcB).trans q1
      have HSX : Aside (Sl W0 (some ⟨xb, xo, none⟩) xn xc x) := by unfold Aside; rw [hW0]; exact s1.below hb0
      have HSL : Aside (Sl W0 (some ⟨b, off, none⟩) n cap l) := by unfold Aside; rw [hW0]; exact HL.out.below hb0
      have HX : Aside (x = LLo.getD c []) := hx
      have HCL : Aside (c < LLo.length) := hcl'
      have HXN : Aside (x.length = xn) := s1.1.1
      have HLN : Aside (l.length = n) := HL.out.1.1
      have HLL : Aside (LLo.length = cm + 1) := HLv.out.1.1
      have hf0 : W0.cell? ⟨w.heap.size, 0, none⟩ = some (.slice (some ⟨cb, co, none⟩) (cm + 1) cc) := by rw [hW0]; simp [go_sem]
      have hf1 : W0.cell? ⟨w.heap.size, 1, none⟩ = some (.map (some B)) := by rw [hW0]; simp [go_sem]
      have hsz0 : w.heap.size < W0.heap.size := by rw [hW0]; simp
      rw [← hW0] at hb0 HM
      have HW0 : Aside (W0 = w.alloc (.cells #[.slice (some ⟨cb, co, none⟩) (cm + 1) cc, .map (some B)] 87)) := hW0
      clear hW0 hx hcells q1 s1 HLv hcl' hxne HL
      by_cases hxl : n < xn
      · have hxd : decide ((n : Int) < (xn : Int)) = true := by simp; omega
        go_enter Try.func81, Try.ntmps81
        go_wp2_with (at_lookup; rw [← HW0.out]; refine wpList_lookup_own_ok _ rfl _ _ 85 rfl 3 3 klaw Try.underlying85 (RV _) (zeroInt _) (.lit (.int .i64 0)) [] (RV_mk (by omega) (by omega)) B m D rfl HM.out (.int .i64 en) (.int .i64 en) rfl HKey.out ?_; intro v ps hv; obtain rfl := RV_eq hv HAt.out; rw [← HT.out]; clear hv)
        go_ret
        exact ⟨Or.inl rfl, hb0⟩
      · have hxd : decide ((n : Int) < (xn : Int)) = false := by simp; omega
        have hxi : (xn : Int) ≤ (cap : Int) := by omega
        obtain ⟨q, hq⟩ : ∃ q, q = decide (x = l.take xn) := ⟨_, rfl⟩
        have HEq : Aside (Calls Try.prog 75 #[.slice (some ⟨xb, xo, none⟩) xn xc, .slice (some ⟨b, off, none⟩) xn cap] W0 fun e w' => e = .returned (.bool q) ∧ Below W0.heap.size W0 w') := by
          unfold Aside
          rw [hq]
          exact equal_any _ _ xn xn xc cap x (l.take xn) W0 HSX.out.1 (HSL.out.1.take xn (by omega)) (by omega)
        have HQ : Aside (q = decide (x = l.take xn)) := hq
        clear hq
        have HEq2 : Aside (Calls Try.prog 75 #[.slice (some ⟨xb, xo, none⟩) xn xc, .slice (some ⟨b, off, none⟩) xn cap] W0 fun e w' => e = .returned (.bool q) ∧ Below W0.heap.size W0 w' ∧ w'.cell? ⟨w.heap.size, 0, none⟩ = some (.slice (some ⟨cb, co, none⟩) (cm + 1) cc)) :=
          HEq.out.mono fun e w' ⟨h1, h2⟩ => ⟨h1, h2, (h2.cell (p := ⟨w.heap.size, 0, none⟩) hsz0).trans hf0⟩
        clear HEq
        cases q with
        | false =>
          go_enter Try.func81, Try.ntmps81
          go_wp2_with (first | (at_lookup; rw [← HW0.out]; refine wpList_lookup_own_ok _ rfl _ _ 85 rfl 3 3 klaw Try.underlying85 (RV _) (zeroInt _) (.lit (.int .i64 0)) [] (RV_mk (by omega) (by omega)) B m D rfl HM.out (.int .i64 en) (.int .i64 en) rfl HKey.out ?_; intro v ps hv; obtain rfl := RV_eq hv HAt.out; rw [← HT.out]; clear hv) | (go_at_call 75; refine HEq2.out.mono ?_; rintro e w1 ⟨rfl, b1, hg0⟩))
          go_ret
          exact ⟨Or.inl rfl, below2 hb0 b1⟩
        | true =>
          have hxl : x = l.take xn := of_decide_eq_true HQ.out.symm
          have HXL : Aside (x = l.take xn) := hxl
          have hcmw : IntKind.i64.wrap (cm : Int) = (cm : Int) := by rw [IntKind.wrap_i64]; omega
          clear hxl
          by_cases hlast : c = cm ∧ xn < n
          · obtain ⟨rfl, hlast⟩ := hlast
            have k2 : decide ((xn : Int) < (n : Int)) = true := by simp [hlast]
            go_enter Try.func81, Try.ntmps81
            go_wp2_with (first | (at_lookup; rw [← HW0.out]; refine wpList_lookup_own_ok _ rfl _ _ 85 rfl 3 3 klaw Try.underlying85 (RV _) (zeroInt _) (.lit (.int .i64 0)) [] (RV_mk (by omega) (by omega)) B m D rfl HM.out (.int .i64 en) (.int .i64 en) rfl HKey.out ?_; intro v ps hv; obtain rfl := RV_eq hv HAt.out; rw [← HT.out]; clear hv) | (go_at_call 75; refine HEq2.out.mono ?_; rintro e w1 ⟨rfl, b1, hg0⟩))
            go_ret
            exact ⟨Or.inl rfl, below2 hb0 b1⟩
          · have HST : Aside (l.take (M.len (k : Int) l) = x ∧ x ≠ []) := by
              have hc2 : x = (M.cut (k : Int) lo).getD c [] := by rw [HX.out, HLo.out]
              refine M.still_ok (k : Int) lo c (by rw [← HLo.out]; exact HCL.out) l x hc2 (by rw [HXN.out]; exact HXL.out) (by rw [HXN.out, HLN.out]; omega) ?_
              rw [← HLo.out, HLL.out, HXN.out, HLN.out]
              intro h
              exact hlast ⟨by omega, h.2⟩
            have HLen : Aside (xn = M.len (k : Int) l) := by
              unfold Aside
              have h1 := congrArg List.length HST.out.1
              have hp := M.len_pos (k : Int) l (fun e => HST.out.2 (by rw [← HST.out.1, e]; simp))
              rw [List.length_take, HXN.out] at h1
              omega
            have HCl : Aside (∀ W, Below W0.heap.size W0 W → Calls Try.prog 66 #[.slice (some ⟨xb, xo, none⟩) xn xc] W fun e w' => ∃ ub uo um uc, e = .returned (.slice (some ⟨ub, uo, none⟩) um uc) ∧ Hid (um = M.len (k : Int) l ∧ Own w' W.heap.size (.slice (some ⟨ub, uo, none⟩) um uc) (l.take (M.len (k : Int) l))) ∧ Below W.heap.size W w') := fun W hW => by
              refine (clone_some xb xo xn xc x W (by omega) ((HSX.out.below hW).1)).mono ?_
              rintro e w' ⟨v, rfl, ho, hb⟩
              obtain ⟨ua, uc, rfl, hs⟩ := Own.sl ho
              rw [HXN.out] at ho hs ⊢
              rcases hs.1.cases with ⟨_, e⟩ | ⟨ub, uo, rfl, _⟩
              · exact absurd e HST.out.2
              · exact ⟨ub, uo, xn, uc, rfl, ⟨HLen.out, by rw [HST.out.1]; exact ho⟩, hb⟩
            by_cases hcm2 : c = cm
            · subst hcm2
              have hnl : ¬ xn < n := fun q => hlast ⟨rfl, q⟩
              have k2 : decide ((xn : Int) < (n : Int)) = false := by simp; omega
              clear hlast
              go_enter Try.func81, Try.ntmps81
              go_wp2_with (first | (at_lookup; rw [← HW0.out]; refine wpList_lookup_own_ok _ rfl _ _ 85 rfl 3 3 klaw Try.underlying85 (RV _) (zeroInt _) (.lit (.int .i64 0)) [] (RV_mk (by omega) (by omega)) B m D rfl HM.out (.int .i64 en) (.int .i64 en) rfl HKey.out ?_; intro v ps hv; obtain rfl := RV_eq hv HAt.out; rw [← HT.out]; clear hv) | (go_at_call 75; refine HEq2.out.mono ?_; rintro e w1 ⟨rfl, b1, hg0⟩) | (go_at_call 66; refine (HCl.out _ b1).mono ?_; rintro e w2 ⟨ub, uo, um, uc, rfl, HU, b2⟩))
              go_ret
              have q1 := below2 hb0 b1
              exact ⟨Or.inr ⟨ub, uo, um, uc, rfl, HU.out.1, HU.out.2.mono q1.size⟩, below2 q1 b2⟩
            · have k1 : ((c : Int) == (cm : Int)) = false := by simp; omega
              have k3 : (c == cm) = false := by simp; omega
              clear hlast
              go_enter Try.func81, Try.ntmps81
              go_wp2_with (first | (at_lookup; rw [← HW0.out]; refine wpList_lookup_own_ok _ rfl _ _ 85 rfl 3 3 klaw Try.underlying85 (RV _) (zeroInt _) (.lit (.int .i64 0)) [] (RV_mk (by omega) (by omega)) B m D rfl HM.out (.int .i64 en) (.int .i64 en) rfl HKey.out ?_; intro v ps hv; obtain rfl := RV_eq hv HAt.out; rw [← HT.out]; clear hv) | (go_at_call 75; refine HEq2.out.mono ?_; rintro e w1 ⟨rfl, b1, hg0⟩) | (go_at_call 66; refine (HCl.out _ b1).mono ?_; rintro e w2 ⟨ub, uo, um, uc, rfl, HU, b2⟩))
              go_ret
              have q1 := below2 hb0 b1
              exact ⟨Or.inr ⟨ub, uo, um, uc, rfl, HU.out.1, HU.out.2.mono q1.size⟩, below2 q1 b2⟩
end Go.Proofs.Ytcgpgflnihjpiac
