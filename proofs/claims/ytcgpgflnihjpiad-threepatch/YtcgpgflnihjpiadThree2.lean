/- three.part. -/
import Derived.Test.YtcgpgflnihjpiadThree1
namespace Go.Proofs.Ytcgpgflnihjpiad
namespace M
theorem filterMap_take (ks : List Int) (f : Int → Option Chg) (i : Nat) (h : i < ks.length) : (ks.take (i + 1)).filterMap f = (ks.take i).filterMap f ++ (f (ks.getD i 0)).toList := by
  rw [List.take_succ_eq_append_getElem h, List.filterMap_append]
  have e : ks.getD i 0 = ks[i] := by simp [List.getD, h]
  rw [e]
  cases hf : f ks[i] <;> simp [hf]
theorem ifilter_take (ks : List Int) (p : Int → Bool) (i : Nat) (h : i < ks.length) : (ks.take (i + 1)).filter p = (ks.take i).filter p ++ if p (ks.getD i 0) = true then [ks.getD i 0] else [] := by
  rw [List.take_succ_eq_append_getElem h, List.filter_append]
  have e : ks.getD i 0 = ks[i] := by simp [List.getD, h]
  rw [e]
  cases hp : p ks[i] <;> simp [hp]
theorem filterMap_len (ks : List Int) (f : Int → Option Chg) : (ks.filterMap f).length ≤ ks.length := List.length_filterMap_le f ks
theorem ckeys_at (b m : List (Int × Int)) (i : Nat) (h : i < (ckeys b m).length) : ∃ k : Nat, (ckeys b m).getD i 0 = (k : Int) ∧ k < 100 ∧ find (k : Int) b ≠ find (k : Int) m := by
  have hm : (ckeys b m).getD i 0 ∈ ckeys b m := by simp [List.getD, h]
  obtain ⟨k, h1, h2, h3⟩ := (mem_sel _ _ _).1 hm
  exact ⟨k, h3, h1, by simpa using h2⟩
theorem ckeys_len (b m : List (Int × Int)) : (ckeys b m).length ≤ 100 := sel_len _ 100
def mclashK (b l m : List (Int × Int)) (x : Int) : Bool := mclash (find x b) (find x l) (find x m)
theorem mkeys_eq (b l m : List (Int × Int)) : (ckeys b m).filter (mclashK b l m) = mkeys b l m := ckeys_filter b l m 100
end M
open Go.RowKit Go.Maps

theorem zeroChange (w : World) : (zeroValue 38).run Try.prog w = .ok (.agg #[.int .i64 0, .int .i64 0, .int .i64 0]) w := by kernel_rfl
theorem ckeys_sel (b m : List (Int × Int)) : M.sel (fun k => (cfun b m 100 (k : Int)).isSome) 100 = M.ckeys b m := by
  refine M.sel_congr _ _ _ fun k hk => ?_
  rw [cfun_at b m 100 k hk]
  by_cases h : M.find (k : Int) b ≠ M.find (k : Int) m
  · rw [if_pos h, decide_eq_true h]; rfl
  · rw [if_neg h, decide_eq_false h]; rfl

set_option maxRecDepth 100000 in
set_option maxHeartbeats 8000000 in
theorem part_any (P Q : Nat) (b l m : List (Int × Int)) (w : World) (hP : Mp w P 100 (cfun b m 100)) (hQ : Mp w Q 100 (cfun b l 100)) :
    Calls Try.prog 45 #[.map (some P), .map (some Q)] w fun e w' => ∃ v u, e = .returned (.tuple #[v, u]) ∧ OwnC w' w.heap.size v (M.alone b l m) ∧ OwnI w' w.heap.size u (M.mkeys b l m) ∧ Below w.heap.size w w' := by
  have HP : Aside (Mp w P 100 (cfun b m 100)) := hP
  have HQ : Aside (Mp w Q 100 (cfun b l 100)) := hQ
  have hPl := hP.lt
  have hQl := hQ.lt
  have HS := sorted_call P 100 (cfun b m 100) w hP (by omega) 100 (cfun_dom b m 100)
  rw [ckeys_sel] at HS
  have HSS : Hid (Calls Try.prog 36 #[.func (.func 65) #[] #[.pointer (some ⟨w.heap.size, 0, none⟩)]] (w.alloc (.cells #[.map (some P)] 65)) fun e w' => ∃ v, e = .returned v ∧ OwnI w' w.heap.size v (M.ckeys b m) ∧ Below w.heap.size w w') := HS
  clear HS hP hQ
  go_enter Try.func45, Try.ntmps45
  go_wp2_with fail
  refine (keys_call (some P) w).mono ?_
  rintro e w1 ⟨rfl, hw1⟩
  subst hw1
  go_wp2_with fail
  refine HSS.out.mono ?_
  rintro e w2 ⟨kv, rfl, hko, hb2⟩
  obtain ⟨ks, hks⟩ : ∃ ks, ks = M.ckeys b m := ⟨_, rfl⟩
  rw [← hks] at hko
  obtain ⟨ka, kc, rfl, hri, _, _⟩ := hko.ri
  obtain ⟨ln, hln⟩ : ∃ ln, ln = ks.length := ⟨_, rfl⟩
  rw [← hln] at hri ⊢
  have hl100 : ln ≤ 100 := by rw [hln, hks]; exact M.ckeys_len b m
  have HKS : Aside (ks = M.ckeys b m) := hks
  have HLN : Aside (ln = ks.length) := hln
  have HRi : Aside (Ri w2 ka ln ks) := hri
  have HP2 : Aside (Mp w2 P 100 (cfun b m 100)) := HP.out.below hb2 hPl
  have HQ2 : Aside (Mp w2 Q 100 (cfun b l 100)) := HQ.out.below hb2 hQl
  have hs2 := hb2.size
  have hP2 : P < w2.heap.size := HP2.out.lt
  have hQ2 : Q < w2.heap.size := HQ2.out.lt
  clear HSS hko hri hks hln HP HQ hPl hQl
  go_wp2
  go_loopg [6, 7, 16] ln (fun g v u ix wr => ∃ i : Nat, i + g = ln ∧ ix = .int .i64 i ∧ Aside (OwnC wr w2.heap.size v ((ks.take i).filterMap (M.aloneC b l m))) ∧ Aside (OwnI wr w2.heap.size u ((ks.take i).filter (M.mclashK b l m))) ∧ Below w2.heap.size w2 wr)
  case atStart => exact ⟨0, by omega, rfl, OwnC.nil _ _, OwnI.nil _ _, Below.refl _ _⟩
  case round =>
    obtain ⟨i, hig, rfl, HV, HU, hbel⟩ := hrel
    have hsz := hbel.size
    by_cases hlt : i < ln
    · have hii : (i : Int) < (ln : Int) := by omega
      obtain ⟨kb, ko, rfl, hkB, hkc⟩ : ∃ kb ko, ka = some ⟨kb, ko, none⟩ ∧ kb < w2.heap.size ∧ ∀ i, i < ln → w2.cell? ⟨kb, ko + i, none⟩ = some (.int .i64 (ks.getD i 0)) := by
        rcases HRi.out.cases with ⟨h0, _⟩ | ⟨kb, ko, e, _, _, hkB, hkc⟩
        · omega
        · exact ⟨kb, ko, e, hkB, hkc⟩
      obtain ⟨k, hk, hk100, hne⟩ := M.ckeys_at b m i (by rw [← HKS.out, ← HLN.out]; exact hlt)
      have ck : wr.cell? ⟨kb, ko + i, none⟩ = some (.int .i64 (k : Int)) := by rw [hbel.cell (p := ⟨kb, ko + i, none⟩) hkB, hkc i hlt, HKS.out, hk]
      obtain ⟨fb, hfb⟩ : ∃ x, x = M.find (k : Int) b := ⟨_, rfl⟩
      obtain ⟨fl, hfl⟩ : ∃ x, x = M.find (k : Int) l := ⟨_, rfl⟩
      obtain ⟨fm, hfm⟩ : ∃ x, x = M.find (k : Int) m := ⟨_, rfl⟩
      have FM := M.filterMap_take ks (M.aloneC b l m) i (by rw [← HLN.out]; exact hlt)
      have FI := M.ifilter_take ks (M.mclashK b l m) i (by rw [← HLN.out]; exact hlt)
      have hgk : ks.getD i 0 = (k : Int) := by rw [HKS.out]; exact hk
      rw [hgk] at FM FI
      have ea : M.aloneC b l m (k : Int) = if fb = fl then some ((k : Int), fb, fm) else none := by unfold M.aloneC; rw [← hfb, ← hfl, ← hfm]
      have ec : M.mclashK b l m (k : Int) = M.mclash fb fl fm := by unfold M.mclashK; rw [← hfb, ← hfl, ← hfm]
      rw [ea] at FM
      rw [ec] at FI
      have hneb : fb ≠ fm := by rw [hfb, hfm]; exact hne
      have one1 : (cfun b m 100 (k : Int)).getD (.agg #[.int .i64 0, .int .i64 0, .int .i64 0]) = .agg #[.int .i64 (k : Int), .int .i64 fb, .int .i64 fm] := by rw [cfun_at b m 100 k hk100, if_pos hne, hfb, hfm]; rfl
      have HPr : Aside (∀ W, Below w2.heap.size w2 W → Mp W P 100 (cfun b m 100)) := fun W hW => HP2.out.below hW hP2
      have HQr : Aside (Mp wr Q 100 (cfun b l 100)) := HQ2.out.below hbel hQ2
      have HOne : Aside ((cfun b m 100 (k : Int)).getD (.agg #[.int .i64 0, .int .i64 0, .int .i64 0]) = .agg #[.int .i64 (k : Int), .int .i64 fb, .int .i64 fm]) := one1
      have hlenV : Aside (((ks.take i).filterMap (M.aloneC b l m)).length + 1 ≤ 1000000) := by
        have h1 := M.filterMap_len (ks.take i) (M.aloneC b l m)
        rw [List.length_take] at h1
        unfold Aside; omega
      have hlenU : Aside (((ks.take i).filter (M.mclashK b l m)).length + 1 ≤ 1000000) := by
        have h1 := List.length_filter_le (M.mclashK b l m) (ks.take i)
        rw [List.length_take] at h1
        unfold Aside; omega
      have hk0 : (0 : Int) ≤ (k : Int) := by omega
      have hkz : (k : Int) ≤ 99 := by omega
      by_cases hbl : fb = fl
      · -- the first has left it as it was
        have other : cfun b l 100 (k : Int) = none := by rw [cfun_at b l 100 k hk100, if_neg (by rw [← hfb, ← hfl]; simp [hbl])]
        have HG : Aside ((cfun b l 100 (k : Int)).getD (.agg #[.int .i64 0, .int .i64 0, .int .i64 0]) = .agg #[.int .i64 0, .int .i64 0, .int .i64 0]) := by unfold Aside; rw [other]; rfl
        have HI : Aside ((cfun b l 100 (k : Int)).isSome = false) := by unfold Aside; rw [other]; rfl
        rw [if_pos hbl] at FM
        have hcl : M.mclash fb fl fm = false := by unfold M.mclash; simp [hbl]
        rw [hcl, if_neg (by simp), List.append_nil] at FI
        have HFM : Aside ((ks.take (i + 1)).filterMap (M.aloneC b l m) = (ks.take i).filterMap (M.aloneC b l m) ++ [((k : Int), fb, fm)]) := FM
        have HU' : ∀ W, W.ownsRow w2.heap.size 3 1 u7 ((ks.take i).filter (M.mclashK b l m)).length (((ks.take i).filter (M.mclashK b l m)).map (Value.int .i64)) → Aside (OwnI W w2.heap.size u7 ((ks.take (i + 1)).filter (M.mclashK b l m))) := fun W h => by unfold Aside OwnI; rw [FI]; exact h
        clear FM FI hbl other hcl ea ec hfb hfl hfm hk hne hneb one1 hgk hkc
        obtain ⟨Wa, hWa⟩ : ∃ Wa, Wa = wr.alloc (.cells #[.int .i64 0, .int .i64 0, .int .i64 0] 38) := ⟨_, rfl⟩
        have hba : Below wr.heap.size wr Wa := by rw [hWa]; exact (Below.refl _ _).alloc (Nat.le_refl _) _
        have hbw : Below w2.heap.size w2 Wa := hbel.trans (hba.mono hsz)
        have HPa : Aside (Mp Wa P 100 (cfun b m 100)) := HPr.out Wa hbw
        have HVa : Aside (OwnC Wa w2.heap.size u6 ((ks.take i).filterMap (M.aloneC b l m))) := HV.out.below hba
        have HUa : Aside (OwnI Wa w2.heap.size u7 ((ks.take i).filter (M.mclashK b l m))) := HU.out.below hba
        have HWa : Hid (Wa = wr.alloc (.cells #[.int .i64 0, .int .i64 0, .int .i64 0] 38)) := hWa
        obtain ⟨Wb, hWb⟩ : ∃ Wb, Wb = Wa.alloc (.cells #[.int .i64 (k : Int), .int .i64 fb, .int .i64 fm] 38) := ⟨_, rfl⟩
        have hbb : Below Wa.heap.size Wa Wb := by rw [hWb]; exact (Below.refl _ _).alloc (Nat.le_refl _) _
        have HVb : Aside (OwnC Wb w2.heap.size u6 ((ks.take i).filterMap (M.aloneC b l m))) := HVa.out.below hbb
        have HUb : Aside (OwnI Wb w2.heap.size u7 ((ks.take i).filter (M.mclashK b l m))) := HUa.out.below hbb
        have hbwb : Below w2.heap.size w2 Wb := hbw.trans (hbb.mono hbw.size)
        have HWb : Hid (Wb = Wa.alloc (.cells #[.int .i64 (k : Int), .int .i64 fb, .int .i64 fm] 38)) := hWb
        have HCb : Hid (∀ j, j < 1 → Wb.cell? ⟨Wa.heap.size, 0 + j * 3, none⟩ = some (.int .i64 (([((k : Int), fb, fm)] : List M.Chg).getD j (0, 0, 0)).1) ∧ Wb.cell? ⟨Wa.heap.size, 0 + j * 3 + 1, none⟩ = some (.int .i64 (([((k : Int), fb, fm)] : List M.Chg).getD j (0, 0, 0)).2.1) ∧ Wb.cell? ⟨Wa.heap.size, 0 + j * 3 + 2, none⟩ = some (.int .i64 (([((k : Int), fb, fm)] : List M.Chg).getD j (0, 0, 0)).2.2)) := by rw [hWb]; exact rc_one Wa _ _ _
        clear hWa hWb hba hbb
        go_wp2_with (first
          | (at_lookup; refine wp_mp_ok rfl _ _ 65 38 rfl Try.underlying65 _ (zeroChange _) Q 100 (cfun b l 100) rfl HQr.out (k : Int) _ _ HG.out HI.out rfl (by omega) (by omega) ?_)
          | (at_lookup; rw [← HWa.out]; refine wp_mp_get rfl _ _ 65 38 rfl Try.underlying65 _ (zeroChange _) P 100 (cfun b m 100) rfl HPa.out (k : Int) _ HOne.out rfl (by omega) (by omega) ?_)
          | (at_builtin; rw [← HWb.out]; refine append_rc rfl _ _ rfl w2.heap.size _ ((ks.take i).filterMap (M.aloneC b l m)) rfl HVb.out Wa.heap.size 1 1 [((k : Int), fb, fm)] rfl rfl HCb.out hlenV.out (by have := hbwb.size; omega) ?_))
        intro v' w' ho' hb3 hkeep
        have HV' : Aside (OwnC w' w2.heap.size v' ((ks.take (i + 1)).filterMap (M.aloneC b l m))) := by unfold Aside; rw [HFM.out]; exact ho'
        have HU2 := HU' w' (keep_row HUb.out (fun q hq e => hkeep q hq (apart_rows HUb.out HVb.out (by decide) q e)))
        have hb4 : Below w2.heap.size w2 w' := hbwb.trans hb3
        clear ho' hb3 hkeep HU' HV HU
        go_wp2
        go_roundg (gk - 1)
        case measure => omega
        case rel => exact ⟨i + 1, by omega, by go_num, HV', HU2, hb4⟩
      · -- both have changed it
        have other : cfun b l 100 (k : Int) = some (.agg #[.int .i64 (k : Int), .int .i64 fb, .int .i64 fl]) := by rw [cfun_at b l 100 k hk100, if_pos (by rw [← hfb, ← hfl]; exact hbl), ← hfb, ← hfl]; rfl
        have HG : Aside ((cfun b l 100 (k : Int)).getD (.agg #[.int .i64 0, .int .i64 0, .int .i64 0]) = .agg #[.int .i64 (k : Int), .int .i64 fb, .int .i64 fl]) := by unfold Aside; rw [other]; rfl
        have HI : Aside ((cfun b l 100 (k : Int)).isSome = true) := by unfold Aside; rw [other]; rfl
        rw [if_neg hbl] at FM
        have hcl : M.mclash fb fl fm = decide (fl ≠ fm) := by
          unfold M.mclash
          by_cases h : fl ≠ fm
          · rw [decide_eq_true h, decide_eq_true ⟨h, fun e => hbl e.symm, fun e => hneb e.symm⟩]
          · rw [decide_eq_false h, decide_eq_false (fun h2 => h h2.1)]
        rw [hcl] at FI
        have HV' : ∀ W, OwnC W w2.heap.size u6 ((ks.take i).filterMap (M.aloneC b l m)) → Aside (OwnC W w2.heap.size u6 ((ks.take (i + 1)).filterMap (M.aloneC b l m))) := fun W h => by unfold Aside; rw [FM]; simpa using h
        obtain ⟨Wa, hWa⟩ : ∃ Wa, Wa = wr.alloc (.cells #[.int .i64 (k : Int), .int .i64 fb, .int .i64 fl] 38) := ⟨_, rfl⟩
        have hba : Below wr.heap.size wr Wa := by rw [hWa]; exact (Below.refl _ _).alloc (Nat.le_refl _) _
        have hbw : Below w2.heap.size w2 Wa := hbel.trans (hba.mono hsz)
        have HPa : Aside (Mp Wa P 100 (cfun b m 100)) := HPr.out Wa hbw
        have HVa : Aside (OwnC Wa w2.heap.size u6 ((ks.take i).filterMap (M.aloneC b l m))) := HV.out.below hba
        have HUa : Aside (OwnI Wa w2.heap.size u7 ((ks.take i).filter (M.mclashK b l m))) := HU.out.below hba
        have HWa : Hid (Wa = wr.alloc (.cells #[.int .i64 (k : Int), .int .i64 fb, .int .i64 fl] 38)) := hWa
        clear hWa hba
        by_cases hlm : fl = fm
        · have hb1 : (fl == fm) = true := by simp [hlm]
          rw [if_neg (by simp [hlm]), List.append_nil] at FI
          have HU' : Aside (OwnI Wa w2.heap.size u7 ((ks.take (i + 1)).filter (M.mclashK b l m))) := by unfold Aside; rw [FI]; exact HUa.out
          have HV2 := HV' Wa HVa.out
          clear FM FI hbl other hcl ea ec hfb hfl hfm hk hne hneb one1 hgk hkc hlm HV' HV HU
          go_wp2_with (first
            | (at_lookup; refine wp_mp_ok rfl _ _ 65 38 rfl Try.underlying65 _ (zeroChange _) Q 100 (cfun b l 100) rfl HQr.out (k : Int) _ _ HG.out HI.out rfl (by omega) (by omega) ?_)
            | (at_lookup; rw [← HWa.out]; refine wp_mp_get rfl _ _ 65 38 rfl Try.underlying65 _ (zeroChange _) P 100 (cfun b m 100) rfl HPa.out (k : Int) _ HOne.out rfl (by omega) (by omega) ?_))
          go_roundg (gk - 1)
          case measure => omega
          case rel => exact ⟨i + 1, by omega, by go_num, HV2, HU', hbw⟩
        · have hb1 : (fl == fm) = false := by simp [hlm]
          rw [if_pos (by simp [hlm])] at FI
          have HFI : Aside ((ks.take (i + 1)).filter (M.mclashK b l m) = (ks.take i).filter (M.mclashK b l m) ++ [(k : Int)]) := FI
          obtain ⟨Wb, hWb⟩ : ∃ Wb, Wb = Wa.alloc (.cells #[.int .i64 (k : Int)] 3) := ⟨_, rfl⟩
          have hbb : Below Wa.heap.size Wa Wb := by rw [hWb]; exact (Below.refl _ _).alloc (Nat.le_refl _) _
          have HVb : Aside (OwnC Wb w2.heap.size u6 ((ks.take i).filterMap (M.aloneC b l m))) := HVa.out.below hbb
          have HUb : Aside (OwnI Wb w2.heap.size u7 ((ks.take i).filter (M.mclashK b l m))) := HUa.out.below hbb
          have hbwb : Below w2.heap.size w2 Wb := hbw.trans (hbb.mono hbw.size)
          have HWb : Hid (Wb = Wa.alloc (.cells #[.int .i64 (k : Int)] 3)) := hWb
          have HCb : Hid (∀ j, j < 1 → Wb.cell? ⟨Wa.heap.size, 0 + j, none⟩ = some (.int .i64 (([(k : Int)] : List Int).getD j 0))) := by rw [hWb]; exact ri_one Wa _
          clear FM FI hbl other hcl ea ec hfb hfl hfm hk hne hneb one1 hgk hkc hlm HV HU hWb hbb
          go_wp2_with (first
            | (at_lookup; refine wp_mp_ok rfl _ _ 65 38 rfl Try.underlying65 _ (zeroChange _) Q 100 (cfun b l 100) rfl HQr.out (k : Int) _ _ HG.out HI.out rfl (by omega) (by omega) ?_)
            | (at_lookup; rw [← HWa.out]; refine wp_mp_get rfl _ _ 65 38 rfl Try.underlying65 _ (zeroChange _) P 100 (cfun b m 100) rfl HPa.out (k : Int) _ HOne.out rfl (by omega) (by omega) ?_)
            | (at_builtin; rw [← HWb.out]; refine append_ri rfl _ _ rfl w2.heap.size _ ((ks.take i).filter (M.mclashK b l m)) rfl HUb.out Wa.heap.size 1 1 [(k : Int)] rfl rfl HCb.out hlenU.out (by have := hbwb.size; omega) ?_))
          intro v' w' ho' hb3 hkeep
          have HU' : Aside (OwnI w' w2.heap.size v' ((ks.take (i + 1)).filter (M.mclashK b l m))) := by unfold Aside; rw [HFI.out]; exact ho'
          have HV2 := HV' w' (keep_row HVb.out (fun q hq e => hkeep q hq (apart_rows HVb.out HUb.out (by decide) q e)))
          have hb4 : Below w2.heap.size w2 w' := hbwb.trans hb3
          clear ho' hb3 hkeep HV'
          go_wp2
          go_roundg (gk - 1)
          case measure => omega
          case rel => exact ⟨i + 1, by omega, by go_num, HV2, HU', hb4⟩
    · have et : ks.take i = ks := List.take_of_length_le (by rw [← HLN.out]; omega)
      have HV2 : Aside (OwnC wr w2.heap.size u6 (M.alone b l m)) := by have h := HV.out; rw [et, HKS.out] at h; exact h
      have HU2 : Aside (OwnI wr w2.heap.size u7 (M.mkeys b l m)) := by have h := HU.out; rw [et, HKS.out, M.mkeys_eq] at h; exact h
      clear et
      go_wp2
      go_ret2
      exact ⟨_, _, rfl, HV2.out.mono hs2, HU2.out.mono hs2, hb2.trans (hbel.mono hs2)⟩
end Go.Proofs.Ytcgpgflnihjpiad
