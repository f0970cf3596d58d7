/- edit.cutAgain, and the function that edited hands to levels.Of. -/
import Derived.Test.YtcgpgflnihjpiacEditB
namespace Go.Proofs.Ytcgpgflnihjpiac
open Go.RowKit Go.Shelf Go.Maps

theorem rows_row {W : World} {m n : Nat} {v : Value} {vals : List Value} {tmp : Obj} (h1 : W.ownsRow m 32 1 v n vals) : ∀ r, v.ownBlock = some r → ∀ cur, (W.alloc tmp).heap[r]? ≠ some (.cells cur 56 (0, 0)) := by
  intro r e cur he
  rcases (h1.alloc tmp).2 with ⟨rfl, _⟩ | ⟨g, cap, cur', rfl, _, hgb, _⟩
  · simp [Value.ownBlock] at e
  · obtain rfl : g = r := by simpa [Value.ownBlock] using e
    rw [hgb] at he
    simp at he

set_option maxRecDepth 100000 in
set_option maxHeartbeats 8000000 in
theorem again_some (ca : Option Addr) (cn cc B k : Nat) (LLo : List (List (Int × Int))) (b0 off0 n cap : Nat) (l : List (Int × Int)) (w : World) (hold : Old w ca cn cc B k LLo) (h : Sl w (some ⟨b0, off0, none⟩) n cap l) (h0 : M.chk l = 0) (hk : k ≤ 9) :
    Calls Try.prog 57 #[.agg #[.slice ca cn cc, .map (some B)], .slice (some ⟨b0, off0, none⟩) n cap, .int .i64 k] w fun e w' => ∃ v, e = .returned (.tuple #[v, .int .i64 0]) ∧ OwnLL w' w.heap.size v (M.cut (k : Int) l) ∧ Below w.heap.size w w' := by
  obtain ⟨i0, hi, hz0, hz1, hz2⟩ := info_parts infoRows
  have hn40 : n ≤ 40 := by rw [← h.1.1]; exact ((M.chk_zero l).1 h0).1
  have hnn : ∀ W b off n c, (binOp .eql 32 (.slice (some ⟨b, off, none⟩) n c) (.slice none 0 0)).run Try.prog W = .ok (.bool false) W := fun W b off n c => by
    have h := Lib.run_eql_slice_nil (P := Try.prog) W 32 56 (some ⟨b, off, none⟩) n c 0 0 Try.underlying32
    simpa using h
  have hn0 : ∀ W, (binOp .eql 32 (.slice none 0 0) (.slice none 0 0)).run Try.prog W = .ok (.bool true) W := fun W => by
    have h := Lib.run_eql_slice_nil (P := Try.prog) W 32 56 none 0 0 0 0 Try.underlying32
    simpa using h
  obtain ⟨W0, hW0⟩ : ∃ W0, W0 = w.alloc (.cells #[.slice ca cn cc, .map (some B)] 87) := ⟨_, rfl⟩
  have hs0 : W0.heap.size = w.heap.size + 1 := by rw [hW0]; simp
  have hb0 : Below w.heap.size w W0 := by rw [hW0]; exact (Below.refl _ _).alloc (Nat.le_refl _) _
  have c0 : W0.cell? ⟨w.heap.size, 0, none⟩ = some (.slice ca cn cc) := by rw [hW0]; simp [go_sem]
  have c1 : W0.cell? ⟨w.heap.size, 1, none⟩ = some (.map (some B)) := by rw [hW0]; simp [go_sem]
  have HW0 : Aside (W0 = w.alloc (.cells #[.slice ca cn cc, .map (some B)] 87)) := hW0
  have HOld : Aside (Old W0 ca cn cc B k LLo) := hold.below hb0
  have HS : Aside (Sl W0 (some ⟨b0, off0, none⟩) n cap l) := h.below hb0
  have HZ : Aside (M.chk l = 0) := h0
  have HS0 : Aside (W0.heap.size = w.heap.size + 1) := hs0
  clear hold h h0 hW0 hs0
  go_enter Try.func57, Try.ntmps57
  go_wp2
  rw [← HW0.out]
  go_loopg [1, 8, 9] n (fun g vl v ve ws => ∃ (off ln c : Nat) (ll : List (Int × Int)) (C : List (List (Int × Int))) (en : Int), vl = .slice (some ⟨b0, off, none⟩) ln c ∧ ve = .int .i64 en ∧ ln ≤ g ∧ ln ≤ 40 ∧ C.length + ln ≤ 40 ∧ -1 ≤ en ∧ en ≤ 99 ∧ Aside (Sl W0 (some ⟨b0, off, none⟩) ln c ll) ∧ Aside (M.chk ll = 0) ∧ Aside (OwnLL ws (w.heap.size + 1) v C) ∧ Aside (C ++ M.cut (k : Int) ll = M.cut (k : Int) l) ∧ Below (w.heap.size + 1) W0 ws)
  case atStart => exact ⟨off0, n, cap, l, [], -1, rfl, rfl, Nat.le_refl _, hn40, by simpa using hn40, by omega, by omega, HS, HZ, OwnLL.nil _ _, by unfold Aside; rw [List.nil_append], Below.refl _ _⟩
  case round =>
    obtain ⟨off, ln, c, ll, C, en, rfl, rfl, hlg, hln, hCl, he0, he1, HSl, HCk, HC, HE, hbel⟩ := hrel
    have hsz : w.heap.size + 1 ≤ wr.heap.size := by have := hbel.size; rw [HS0.out] at this; exact this
    have c0' : wr.cell? ⟨w.heap.size, 0, none⟩ = some (.slice ca cn cc) := (hbel.cell (p := ⟨w.heap.size, 0, none⟩) (by show w.heap.size < _; omega)).trans c0
    have c1' : wr.cell? ⟨w.heap.size, 1, none⟩ = some (.map (some B)) := (hbel.cell (p := ⟨w.heap.size, 1, none⟩) (by show w.heap.size < _; omega)).trans c1
    have hcm := HSl.out.2.2.1
    have hcl := HSl.out.2.1
    unfold maxLen at hcm
    have hbw : Below W0.heap.size W0 wr := by rw [HS0.out]; exact hbel
    by_cases hln0 : ln = 0
    · subst hln0
      have HR : Aside (OwnLL wr (w.heap.size + 1) u8 (M.cut (k : Int) l)) := by
        unfold Aside
        rw [← HE.out, show ll = [] from List.eq_nil_of_length_eq_zero HSl.out.1.1, M.cut_nil, List.append_nil]
        exact HC.out
      go_wp2
      go_ret2
      exact ⟨_, rfl, HR.out.mono (by omega), hb0.trans (hbel.mono (by omega))⟩
    · have hlnp : 0 < ln := by omega
      have hlni : decide ((0 : Int) < (ln : Int)) = true := by simp; omega
      obtain ⟨q, hq⟩ : ∃ q, q = M.len (k : Int) ll := ⟨_, rfl⟩
      have hne : ll ≠ [] := fun e => by have := HSl.out.1.1; rw [e] at this; simp at this; omega
      have HNe : Aside (ll ≠ []) := hne
      have HQ : Aside (q = M.len (k : Int) ll) := hq
      have HLen : Aside (q ≤ ln ∧ 0 < q) := by
        have := M.len_pos (k : Int) ll hne
        rw [← hq, HSl.out.1.1] at this
        exact ⟨this.2, this.1⟩
      obtain ⟨ky, hky⟩ : ∃ ky, ky = M.lastK (ll.take (M.len (k : Int) ll)) := ⟨_, rfl⟩
      have HKy : Aside (ky = M.lastK (ll.take (M.len (k : Int) ll))) := hky
      have hkr : 0 ≤ ky ∧ ky ≤ 99 := by
        have hx : ll.take (M.len (k : Int) ll) ≠ [] := fun e => by
          have h1 := congrArg List.length e
          rw [List.length_take, HSl.out.1.1, ← hq] at h1
          have := HLen.out
          simp at h1; omega
        obtain ⟨r, hr, e⟩ := M.last_mem hx
        have := ((M.chk_zero ll).1 HCk.out).2.1 r (List.mem_of_mem_take hr)
        rw [hky, ← e]; omega
      obtain ⟨hk0, hk1⟩ := hkr
      have HSt := still_any ca cn cc B k LLo en b0 off ln c ll wr (HOld.out.below hbw) (HSl.out.below hbw) he0 he1
      rw [← hq] at HSt
      have HSt1 : Aside (Calls Try.prog 81 #[.agg #[.slice ca cn cc, .map (some B)], .int .i64 en, .slice (some ⟨b0, off, none⟩) ln c] wr fun e w' =>
        (e = .returned (.slice none 0 0) ∨ ∃ ub uo um uc, e = .returned (.slice (some ⟨ub, uo, none⟩) um uc) ∧ um = q ∧ Own w' wr.heap.size (.slice (some ⟨ub, uo, none⟩) um uc) (ll.take q)) ∧ Below wr.heap.size wr w') := HSt
      have HFi : Aside (∀ W, Below wr.heap.size wr W → Calls Try.prog 82 #[.slice (some ⟨b0, off, none⟩) ln c, .int .i64 k] W fun e w' => ∃ ub uo uc, e = .returned (.tuple #[.slice (some ⟨ub, uo, none⟩) q uc, .int .i64 0]) ∧ Hid (Own w' W.heap.size (.slice (some ⟨ub, uo, none⟩) q uc) (ll.take (M.len (k : Int) ll))) ∧ Below W.heap.size W w') := fun W hW => by
        refine (efirst_some b0 off ln c ll k W ((HSl.out.below hbw).below hW) hlnp HCk.out hk).mono ?_
        rintro e w' ⟨xa, m, xc, rfl, hm, ho, hb⟩
        rw [← HQ.out] at hm
        subst hm
        obtain ⟨xa', xc', e1, hr, _⟩ := ho.rd
        have e2 := Value.slice.inj e1
        rcases hr.cases with ⟨h1, _⟩ | ⟨ub, uo, h1, _⟩
        · rw [← e2.2.1] at h1; have := HLen.out.2; omega
        · rw [← e2.1] at h1
          subst h1
          exact ⟨ub, uo, xc, rfl, ho, hb⟩
      clear HSt hq hky hne
      go_wp2_with fail
      refine HSt1.out.mono ?_
      rintro e w3 ⟨rfl | ⟨ub, uo, um, uc, rfl, rfl, ho⟩, b3⟩
      · go_wp2_with fail
        refine (HFi.out _ b3).mono ?_
        rintro e w4 ⟨ub, uo, uc, rfl, ho, b4⟩
        have b34 : Below wr.heap.size wr w4 := below2 b3 b4
        have HU : Aside (Own w4 (w.heap.size + 1) (.slice (some ⟨ub, uo, none⟩) q uc) (ll.take (M.len (k : Int) ll))) := ho.out.mono (Nat.le_trans hsz b3.size)
        clear ho b4 b3
        have hqn : q ≤ ln := HLen.out.1
        have hq0 : 0 < q := HLen.out.2
        obtain ⟨vals, hrow, hel⟩ := (HC.out.kept (grown_none b34) (fun r e => by cases e))
        have HRow : Aside (w4.ownsRow (w.heap.size + 1) 32 1 u8 C.length vals) := hrow
        have HEl : Aside (∀ i u, vals[i]? = some u → Own w4 (w.heap.size + 1) u (C.getD i [])) := hel
        clear hrow hel
        have hbx : Below (w.heap.size + 1) W0 w4 := hbel.trans (b34.mono hsz)
        have hszx : w.heap.size + 1 ≤ w4.heap.size := Nat.le_trans hsz b34.size
        go_wp2_with (at_builtin; refine wpList_append_own _ rfl _ _ 58 rfl (w.heap.size + 1) 32 i0 (.slice none 0 0) 1 24 Try.underlying58 hi hz0 hz1 hz2 rfl (by decide) _ C.length vals rfl (World.ownsRow.alloc HRow.out _) ⟨w4.heap.size, 0, none⟩ 1 1 [.slice (some ⟨ub, uo, none⟩) q uc] rfl rfl (cell_one_new _ _ _) (by simp [Value.oneCell']) (by simp [maxLen]; omega) (by omega) (by simp; omega) ?_)
        intro v5 w5 hown5 hgrow5 _
        have HC5 : Aside (OwnLL w5 (w.heap.size + 1) v5 (C ++ [ll.take (M.len (k : Int) ll)])) := OwnLL.append HRow.out HEl.out HU.out hown5 hgrow5
        have hb5 : Below (w.heap.size + 1) W0 w5 := (hbx.alloc hszx _).grown hgrow5 (by simp; omega) (fun r e => (World.ownsRow.lt HRow.out r e).1)
        have hsz5 : w.heap.size + 1 ≤ w5.heap.size := by have := hb5.size; rw [HS0.out] at this; exact this
        have HU5 : Aside (Own w5 (w.heap.size + 1) (.slice (some ⟨ub, uo, none⟩) q uc) (ll.take (M.len (k : Int) ll))) := ownsRow_other (World.ownsRow.alloc HU.out _) hgrow5 (rows_row HRow.out)
        obtain ⟨qm, rfl⟩ : ∃ m, q = m + 1 := ⟨q - 1, by omega⟩
        have HLK : Aside (Calls Try.prog 83 #[.slice (some ⟨ub, uo, none⟩) (qm + 1) uc] w5 fun e w' => e = .returned (.int .i64 ky) ∧ Below w5.heap.size w5 w') := by
          unfold Aside
          rw [HKy.out]
          obtain ⟨xa, xc, e, hr, _⟩ := HU5.out.rd
          have e2 := Value.slice.inj e
          rw [← e2.1, ← e2.2.1] at hr
          exact lastKey_any ub uo qm uc _ w5 hr (by omega)
        clear hown5 hgrow5 HRow HEl
        go_wp2_with fail
        refine HLK.out.mono ?_
        rintro e w6 ⟨rfl, b6⟩
        have hb6 : Below (w.heap.size + 1) W0 w6 := hb5.trans (b6.mono hsz5)
        have HC6 : Aside (OwnLL w6 (w.heap.size + 1) v5 (C ++ [ll.take (M.len (k : Int) ll)])) := HC5.out.kept (grown_none b6) (fun r e => by cases e)
        have hqi : ((qm : Int) + 1) ≤ (ln : Int) := by omega
        have hqi2 : ((qm : Int) + 1) ≤ (c : Int) := by omega
        clear HC5 HU5 HLK b6 HU
        have hq1 : qm + 1 = M.len (k : Int) ll := HQ.out
        have HEn : Aside ((C ++ [ll.take (M.len (k : Int) ll)]) ++ M.cut (k : Int) (ll.drop (qm + 1)) = M.cut (k : Int) l) := by
          unfold Aside
          rw [← HE.out, M.cut_step (k : Int) ll HNe.out, ← hq1, List.append_assoc, List.singleton_append]
        have HCn : Aside (M.chk (ll.drop (qm + 1)) = 0) := M.chk_drop HCk.out _
        have HCl : Aside ((C ++ [ll.take (M.len (k : Int) ll)]).length + (ln - (qm + 1)) ≤ 40) := by unfold Aside; rw [List.length_append]; simp; omega
        clear hq1
        by_cases hcq : c = qm + 1
        · subst hcq
          have HSn : Aside (Sl W0 (some ⟨b0, off, none⟩) 0 0 (ll.drop (qm + 1))) := ⟨Rd.zero rfl (by rw [List.length_drop, HSl.out.1.1]; omega), by omega, by simp [maxLen], fun h => by simp at h⟩
          have HCl0 : Aside ((C ++ [ll.take (M.len (k : Int) ll)]).length + 0 ≤ 40) := by unfold Aside; have := HCl.out; omega
          go_wp2
          go_roundg (ln - (qm + 1))
          case measure => omega
          case rel => exact ⟨off, 0, 0, ll.drop (qm + 1), _, ky, rfl, rfl, by omega, by omega, HCl0.out, by omega, hk1, HSn, HCn, HC6, HEn, hb6⟩
        · have HSn : Aside (Sl W0 (some ⟨b0, off + (qm + 1) * 2, none⟩) (ln - (qm + 1)) (c - (qm + 1)) (ll.drop (qm + 1))) := ⟨HSl.out.1.drop (qm + 1), by omega, by have := HSl.out.2.2.1; omega, fun h => by simp at h⟩
          go_wp2
          go_roundg (ln - (qm + 1))
          case measure => omega
          case rel => exact ⟨off + (qm + 1) * 2, ln - (qm + 1), c - (qm + 1), ll.drop (qm + 1), _, ky, rfl, rfl, Nat.le_refl _, by omega, HCl.out, by omega, hk1, HSn, HCn, HC6, HEn, hb6⟩
      · have HU : Aside (Own w3 (w.heap.size + 1) (.slice (some ⟨ub, uo, none⟩) um uc) (ll.take (M.len (k : Int) ll))) := by unfold Aside; rw [← HQ.out]; exact ho.mono hsz
        clear ho
        obtain ⟨q, hqq⟩ : ∃ q, q = um := ⟨_, rfl⟩
        subst hqq
        have hqn : q ≤ ln := HLen.out.1
        have hq0 : 0 < q := HLen.out.2
        obtain ⟨vals, hrow, hel⟩ := (HC.out.kept (grown_none b3) (fun r e => by cases e))
        have HRow : Aside (w3.ownsRow (w.heap.size + 1) 32 1 u8 C.length vals) := hrow
        have HEl : Aside (∀ i u, vals[i]? = some u → Own w3 (w.heap.size + 1) u (C.getD i [])) := hel
        clear hrow hel
        have hbx : Below (w.heap.size + 1) W0 w3 := hbel.trans (b3.mono hsz)
        have hszx : w.heap.size + 1 ≤ w3.heap.size := Nat.le_trans hsz b3.size
        go_wp2_with (at_builtin; refine wpList_append_own _ rfl _ _ 58 rfl (w.heap.size + 1) 32 i0 (.slice none 0 0) 1 24 Try.underlying58 hi hz0 hz1 hz2 rfl (by decide) _ C.length vals rfl (World.ownsRow.alloc HRow.out _) ⟨w3.heap.size, 0, none⟩ 1 1 [.slice (some ⟨ub, uo, none⟩) q uc] rfl rfl (cell_one_new _ _ _) (by simp [Value.oneCell']) (by simp [maxLen]; omega) (by omega) (by simp; omega) ?_)
        intro v5 w5 hown5 hgrow5 _
        have HC5 : Aside (OwnLL w5 (w.heap.size + 1) v5 (C ++ [ll.take (M.len (k : Int) ll)])) := OwnLL.append HRow.out HEl.out HU.out hown5 hgrow5
        have hb5 : Below (w.heap.size + 1) W0 w5 := (hbx.alloc hszx _).grown hgrow5 (by simp; omega) (fun r e => (World.ownsRow.lt HRow.out r e).1)
        have hsz5 : w.heap.size + 1 ≤ w5.heap.size := by have := hb5.size; rw [HS0.out] at this; exact this
        have HU5 : Aside (Own w5 (w.heap.size + 1) (.slice (some ⟨ub, uo, none⟩) q uc) (ll.take (M.len (k : Int) ll))) := ownsRow_other (World.ownsRow.alloc HU.out _) hgrow5 (rows_row HRow.out)
        obtain ⟨qm, rfl⟩ : ∃ m, q = m + 1 := ⟨q - 1, by omega⟩
        have HLK : Aside (Calls Try.prog 83 #[.slice (some ⟨ub, uo, none⟩) (qm + 1) uc] w5 fun e w' => e = .returned (.int .i64 ky) ∧ Below w5.heap.size w5 w') := by
          unfold Aside
          rw [HKy.out]
          obtain ⟨xa, xc, e, hr, _⟩ := HU5.out.rd
          have e2 := Value.slice.inj e
          rw [← e2.1, ← e2.2.1] at hr
          exact lastKey_any ub uo qm uc _ w5 hr (by omega)
        clear hown5 hgrow5 HRow HEl
        go_wp2_with fail
        refine HLK.out.mono ?_
        rintro e w6 ⟨rfl, b6⟩
        have hb6 : Below (w.heap.size + 1) W0 w6 := hb5.trans (b6.mono hsz5)
        have HC6 : Aside (OwnLL w6 (w.heap.size + 1) v5 (C ++ [ll.take (M.len (k : Int) ll)])) := HC5.out.kept (grown_none b6) (fun r e => by cases e)
        have hqi : ((qm : Int) + 1) ≤ (ln : Int) := by omega
        have hqi2 : ((qm : Int) + 1) ≤ (c : Int) := by omega
        clear HC5 HU5 HLK b6 HU
        have hq1 : qm + 1 = M.len (k : Int) ll := HQ.out
        have HEn : Aside ((C ++ [ll.take (M.len (k : Int) ll)]) ++ M.cut (k : Int) (ll.drop (qm + 1)) = M.cut (k : Int) l) := by
          unfold Aside
          rw [← HE.out, M.cut_step (k : Int) ll HNe.out, ← hq1, List.append_assoc, List.singleton_append]
        have HCn : Aside (M.chk (ll.drop (qm + 1)) = 0) := M.chk_drop HCk.out _
        have HCl : Aside ((C ++ [ll.take (M.len (k : Int) ll)]).length + (ln - (qm + 1)) ≤ 40) := by unfold Aside; rw [List.length_append]; simp; omega
        clear hq1
        by_cases hcq : c = qm + 1
        · subst hcq
          have HSn : Aside (Sl W0 (some ⟨b0, off, none⟩) 0 0 (ll.drop (qm + 1))) := ⟨Rd.zero rfl (by rw [List.length_drop, HSl.out.1.1]; omega), by omega, by simp [maxLen], fun h => by simp at h⟩
          have HCl0 : Aside ((C ++ [ll.take (M.len (k : Int) ll)]).length + 0 ≤ 40) := by unfold Aside; have := HCl.out; omega
          go_wp2
          go_roundg (ln - (qm + 1))
          case measure => omega
          case rel => exact ⟨off, 0, 0, ll.drop (qm + 1), _, ky, rfl, rfl, by omega, by omega, HCl0.out, by omega, hk1, HSn, HCn, HC6, HEn, hb6⟩
        · have HSn : Aside (Sl W0 (some ⟨b0, off + (qm + 1) * 2, none⟩) (ln - (qm + 1)) (c - (qm + 1)) (ll.drop (qm + 1))) := ⟨HSl.out.1.drop (qm + 1), by omega, by have := HSl.out.2.2.1; omega, fun h => by simp at h⟩
          go_wp2
          go_roundg (ln - (qm + 1))
          case measure => omega
          case rel => exact ⟨off + (qm + 1) * 2, ln - (qm + 1), c - (qm + 1), ll.drop (qm + 1), _, ky, rfl, rfl, Nat.le_refl _, by omega, HCl.out, by omega, hk1, HSn, HCn, HC6, HEn, hb6⟩

/-- The function literal of edited cuts as chunk.Cut does. -/
theorem edit_cuts (a : Option Addr) (n cap p : Nat) (T : List (List (List (Int × Int)))) (w : World) (hT : TvS w a n cap T) (hE : treeE T = 0) (hp : w.cell? ⟨p, 0, none⟩ = some (.slice a n cap)) (hpl : p < w.heap.size) :
    Cuts 56 [.pointer (some ⟨p, 0, none⟩)] w := by
  intro W b off ln c ll k hW hS hln h0 hk
  have hp' : W.cell? ⟨p, 0, none⟩ = some (.slice a n cap) := (hW.cell (p := ⟨p, 0, none⟩) hpl).trans hp
  have HB : Aside (Calls Try.prog 58 #[.slice a n cap, .int .i64 k] W fun e w' => ∃ ca cn cc B, e = .returned (.agg #[.slice ca cn cc, .map (some B)]) ∧ Hid (Old w' ca cn cc B k (T.getD k [])) ∧ Below W.heap.size W w') := before_any a n cap k T W (hT.below hW) hE
  have HA : Aside (∀ ca cn cc B W', Old W' ca cn cc B k (T.getD k []) → Below W.heap.size W W' → Calls Try.prog 57 #[.agg #[.slice ca cn cc, .map (some B)], .slice (some ⟨b, off, none⟩) ln c, .int .i64 k] W' fun e w' => ∃ v, e = .returned (.tuple #[v, .int .i64 0]) ∧ OwnLL w' W'.heap.size v (M.cut (k : Int) ll) ∧ Below W'.heap.size W' w') := fun ca cn cc B W' ho hb => again_some ca cn cc B k (T.getD k []) b off ln c ll W' ho (hS.below hb) h0 hk
  clear hT hE hS h0 hp hW
  show Calls Try.prog 56 #[.slice (some ⟨b, off, none⟩) ln c, .int .i64 k, .pointer (some ⟨p, 0, none⟩)] W _
  go_enter Try.func56, Try.ntmps56
  go_wp2_with fail
  refine HB.out.mono ?_
  rintro e w1 ⟨ca, cn, cc, B, rfl, HO, b1⟩
  go_wp2_with fail
  refine (HA.out ca cn cc B w1 HO.out b1).mono ?_
  rintro e w2 ⟨v, rfl, ho, b2⟩
  have q2 := below2 b1 b2
  have HO2 : Aside (OwnLL w2 W.heap.size v (M.cut (k : Int) ll)) := ho.mono b1.size
  clear ho
  go_wp2
  go_ret2
  exact ⟨_, rfl, HO2.out, q2⟩
end Go.Proofs.Ytcgpgflnihjpiac
