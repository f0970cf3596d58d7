/- The reference's build. -/
import Derived.Test.YtcgpgflnihjpiacSameT
import Derived.Test.YtcgpgflnihjpiacRefCut
import Derived.Deep.RegionHeld3
import Derived.Deep.AppendLies
namespace Go.Proofs.Ytcgpgflnihjpiac
open Go.RowKit

/-- One row appended to rows of the call's own, at a step of a region that draws. -/
theorem step_append_row {w : World} {ops : Array Oper} {o : Oper} {a : Act} {K : Act → World → Prop} {Q : Exit → Act → World → Prop} {E : Prop} (hgd : o.guard = none) (s x : Operand)
    (ho : o.op = .call { callee := .builtin .append, args := #[s, x], argTypes := #[32, 32] })
    (base : Nat) (v : Value) (l : List (Int × Int)) (hs : a.eval s = v) (hown : Own w base v l)
    (ad : Addr) (r : Int × Int) (hx : a.eval x = .slice (some ad) 1 1) (hr : Rd w (some ad) 1 [r])
    (hbig : l.length + 1 ≤ 1000000) (hbase : base ≤ w.heap.size)
    (h : ∀ v' w', Own w' base v' (l ++ [r]) → Below base w w' → K (a.put o.dst v') w') : if Region.wanted o (yielded ops a.tmps) = true then Oper.wp Try.prog o a w K Q else E := by
  obtain ⟨i0, hi, hz0, hz1, hz2⟩ := info_parts infoRow
  have hm2 : (enc [r]).length = 1 * 2 := by rw [enc_length]; rfl
  have hnews : ∀ j u, (enc [r])[j]? = some u → w.cell? (ad.add j) = some u := by
    rcases hr.cases with ⟨h1, _⟩ | ⟨b, off, hab, hn, hl, hB, hc⟩
    · omega
    · obtain rfl : ad = ⟨b, off, none⟩ := by simpa using hab
      exact Rd.enc hl hc
  refine step_append_lies w hgd s x 32 ho base 56 i0 (.agg #[.int .i64 0, .int .i64 0]) 2 16 Try.underlying32 hi hz0 hz1 hz2 rfl (by decide) v l.length (enc l) hs hown ad 1 1 (enc [r]) hx hm2 hnews (enc_one [r])
    (by decide) (by simp only [maxLen]; omega) (by omega) hbase _ rfl ?_
  intro g cap w' h1 h2 _ _
  refine h _ w' ?_ ((Below.refl _ _).grown h2 hbase fun k hk => (World.ownsRow.lt hown k hk).1)
  unfold Own
  rw [enc_append, List.length_append]
  exact h1

theorem rbuild_none (a : Option Addr) (cap : Nat) (w : World) :
    Calls Try.prog 32 #[.slice a 0 cap] w fun e w' => e = .returned (.slice none 0 0) ∧ Below w.heap.size w w' := by
  go_enter Try.func32, Try.ntmps32
  go_wp2
  refine wp_loop_rounds 1 ?_
  rw [rounds_succ]
  go_wp2
  go_ret
  exact ⟨rfl, Below.refl _ _⟩

set_option maxRecDepth 10000 in
set_option maxHeartbeats 8000000 in
theorem rbuild_some (b0 off0 n cap : Nat) (l : List (Int × Int)) (w : World) (h : Sl w (some ⟨b0, off0, none⟩) n cap l) (hn0 : 0 < n) (h0 : M.chk l = 0) :
    Calls Try.prog 32 #[.slice (some ⟨b0, off0, none⟩) n cap] w fun e w' => ∃ v, e = .returned v ∧ OwnT w' w.heap.size v (M.build l) ∧ Below w.heap.size w w' := by
  obtain ⟨i0, hi, hz0, hz1, hz2⟩ := info_parts infoLevels
  have hn40 : n ≤ 40 := by rw [← h.1.1]; exact ((M.chk_zero l).1 h0).1
  have HS : Aside (Sl w (some ⟨b0, off0, none⟩) n cap l) := h
  have HZ : Aside (M.chk l = 0) := h0
  clear h h0
  go_enter Try.func32, Try.ntmps32
  have b1 := Below.refl w.heap.size w
  go_wp2
  go_loopg [0, 3] n (fun g vl v wr => ∃ (b off ln c k : Nat) (ll : List (Int × Int)) (T : List (List (List (Int × Int)))), vl = .slice (some ⟨b, off, none⟩) ln c ∧ ln ≤ g ∧ 0 < ln ∧ ln ≤ 40 ∧ k + M.lvl ln ≤ 6 ∧ Aside (T.length = k) ∧ Aside (Sl wr (some ⟨b, off, none⟩) ln c ll) ∧ Aside (M.chk ll = 0) ∧ Aside (OwnT wr w.heap.size v T) ∧ Aside (T ++ M.buildF ln k ll = M.build l) ∧ Below w.heap.size w wr)
  case atStart => exact ⟨b0, off0, n, cap, 0, l, [], rfl, Nat.le_refl _, hn0, hn40, by have := (M.lvl_six n).2; omega, rfl, HS.out.below b1, HZ, OwnT.nil _ _, by unfold Aside; rw [List.nil_append, M.build, HS.out.1.1], b1⟩
  case round =>
    obtain ⟨b, off, ln, c, k, ll, T, rfl, hlg, hln0, hln, hkl, HT, HSl, HCk, HO, HE, hbel⟩ := hrel
    have hsz := hbel.size
    have hk6 : k ≤ 5 := by have := (M.lvl_six ln).1; omega
    obtain ⟨ta, tn, tc, htv, htS⟩ := HO.out.tv
    obtain rfl : tn = k := by rw [← HT.out]; exact htS.1.1.symm
    subst htv
    have hne : ll ≠ [] := fun e => by have := HSl.out.1.1; rw [e] at this; simp at this; omega
    have HB : Aside (b < wr.heap.size) := by
      rcases HSl.out.1.cases with ⟨e, _⟩ | ⟨b', off', e, _, _, hB, _⟩
      · omega
      · obtain ⟨rfl, rfl⟩ : b = b' ∧ off = off' := by simpa using e
        exact hB
    have HC := rcut_any (some ⟨b, off, none⟩) ln c ll (tn : Int) wr HSl.out HCk.out
    obtain ⟨LL, hLL⟩ : ∃ LL, LL = M.cut (tn : Int) ll := ⟨_, rfl⟩
    rw [← hLL] at HC
    have HC1 : Aside (Calls Try.prog 61 #[.slice (some ⟨b, off, none⟩) ln c, .int .i64 tn] wr fun e w' => ∃ v, e = .returned v ∧ OwnLL w' wr.heap.size v LL ∧ Below wr.heap.size wr w') := HC
    have HLL : Aside (LL = M.cut (tn : Int) ll) := hLL
    have hLp : 0 < LL.length := by rw [hLL]; exact M.cut_pos _ ll hne
    have hLh : LL.length ≤ (ln + 1) / 2 := by rw [hLL, ← HSl.out.1.1]; exact M.cut_half _ ll
    have HNe : Aside (ll ≠ []) := hne
    obtain ⟨N, hN⟩ : ∃ N, N = LL.length := ⟨_, rfl⟩
    rw [← hN] at hLp hLh
    have HN : Aside (N = LL.length) := hN
    clear HC hLL hne hN htS
    go_wp2_with fail
    refine HC1.out.mono ?_
    rintro e w2 ⟨lv, rfl, holl, b2⟩
    obtain ⟨la, ln', lc, rfl, hlv⟩ := holl.lv
    obtain rfl : ln' = N := by rw [HN.out]; exact hlv.1.1.symm
    have HOLL : Aside (OwnLL w2 w.heap.size (.slice la ln' lc) LL) := holl.mono hsz
    have HOT2 : Aside (OwnT w2 w.heap.size (.slice ta tn tc) T) := HO.out.kept (grown_none b2) (fun r e => by cases e)
    obtain ⟨vals, hrow, hel⟩ := HOT2.out
    have HRow : Aside (w2.ownsRow w.heap.size 58 1 (.slice ta tn tc) T.length vals) := hrow
    have HEl : Aside (∀ i u, vals[i]? = some u → OwnLL w2 w.heap.size u (T.getD i [])) := hel
    have hb2 : Below w.heap.size w w2 := hbel.trans (b2.mono hsz)
    clear holl hlv hrow hel b2 HC1
    by_cases h1 : ln' = 1
    · have h1b : ((ln' : Int) == 1) = true := by simp [h1]
      have EB : Aside (T ++ [LL] = M.build l) := by
        unfold Aside
        rw [← HE.out]
        obtain ⟨f, rfl⟩ : ∃ f, ln = f + 1 := ⟨ln - 1, by omega⟩
        rw [M.buildF_one f tn ll HNe.out (by rw [← HLL.out, ← HN.out, h1]), HLL.out]
      clear h1
      go_wp2_with (at_builtin; refine wpList_append_own _ rfl _ _ 22 rfl w.heap.size 58 i0 (.slice none 0 0) 1 24 Try.underlying22 hi hz0 hz1 hz2 rfl (by decide) _ T.length vals rfl (World.ownsRow.alloc HRow.out _) ⟨w2.heap.size, 0, none⟩ 1 1 [.slice la ln' lc] rfl rfl (cell_one_new _ _ _) (by simp [Value.oneCell']) (by rw [HT.out]; simp [maxLen]; omega) (by rw [HT.out]; omega) (by have := hb2.size; simp; omega) ?_)
      intro v3 w3 hown3 hgrow3 _
      obtain ⟨hot3, hll3⟩ := OwnT.append HRow.out HEl.out HOLL.out hown3 hgrow3
      have HOT3 : Aside (OwnT w3 w.heap.size v3 (M.build l)) := by unfold Aside; rw [← EB.out]; exact hot3
      have hb3 : Below w.heap.size w w3 := (hb2.alloc hb2.size _).grown hgrow3 (by have := hb2.size; simp; omega) (fun r e => (World.ownsRow.lt HRow.out r e).1)
      clear hown3 hgrow3 hot3 hll3
      go_wp2
      go_ret
      exact ⟨_, rfl, HOT3.out, hb3⟩
    · have h1b : ((ln' : Int) == 1) = false := by simp; omega
      have HNE : Aside (∀ c ∈ LL, c ≠ []) := by unfold Aside; rw [HLL.out]; exact M.cut_ne _ ll
      have HCH : Aside (∀ c ∈ LL, M.chk c = 0) := by unfold Aside; rw [HLL.out]; exact M.cut_chk HCk.out
      have HTC : Aside (M.chk (M.tell LL) = 0) := by unfold Aside; rw [HLL.out]; exact M.tell_cut_chk HCk.out
      have EB : Aside ((T ++ [LL]) ++ M.buildF ln' (tn + 1) (M.tell LL) = M.build l) := by
        unfold Aside
        rw [← HE.out]
        obtain ⟨f, rfl⟩ : ∃ f, ln = f + 1 := ⟨ln - 1, by omega⟩
        rw [M.buildF_more f tn ll HNe.out (by rw [← HLL.out, ← HN.out]; exact h1), HLL.out, List.append_assoc, List.singleton_append, ← HLL.out]
        rw [M.buildF_fuel ln' f (tn + 1) (M.tell LL) (by rw [M.tell_length, ← HN.out]; exact Nat.le_refl _) (by rw [M.tell_length, ← HN.out]; omega)]
      have hlv1 : ln' < ln := by omega
      have hlv2 : tn + 1 + M.lvl ln' ≤ 6 := by
        have e1 := M.lvl_mono ln' ((ln + 1) / 2) hLh
        have e2 := M.lvl_step ln hln (by omega)
        omega
      go_wp2_with (at_builtin; refine wpList_append_own _ rfl _ _ 22 rfl w.heap.size 58 i0 (.slice none 0 0) 1 24 Try.underlying22 hi hz0 hz1 hz2 rfl (by decide) _ T.length vals rfl (World.ownsRow.alloc HRow.out _) ⟨w2.heap.size, 0, none⟩ 1 1 [.slice la ln' lc] rfl rfl (cell_one_new _ _ _) (by simp [Value.oneCell']) (by rw [HT.out]; simp [maxLen]; omega) (by rw [HT.out]; omega) (by have := hb2.size; simp; omega) ?_)
      intro v3 w3 hown3 hgrow3 _
      obtain ⟨hot3, hll3⟩ := OwnT.append HRow.out HEl.out HOLL.out hown3 hgrow3
      have HOT3 : Aside (OwnT w3 w.heap.size v3 (T ++ [LL])) := hot3
      have hb3 : Below w.heap.size w w3 := (hb2.alloc hb2.size _).grown hgrow3 (by have := hb2.size; simp; omega) (fun r e => (World.ownsRow.lt HRow.out r e).1)
      obtain ⟨la', ln'', lc', hle, hlv3⟩ := hll3.lv
      obtain ⟨rfl, rfl, rfl⟩ : la = la' ∧ ln' = ln'' ∧ lc = lc' := by simpa using hle
      obtain ⟨lb, lo, rfl⟩ : ∃ lb lo, la = some ⟨lb, lo, none⟩ := by
        rcases hlv3.1.2 with e | ⟨b', o', e, _⟩
        · omega
        · exact ⟨b', o', e⟩
      have HLV : Aside (Lv w3 (some ⟨lb, lo, none⟩) ln' LL) := hlv3.1
      have HLB : Aside (lb < w3.heap.size) := (hlv3.1.at hLp).1
      clear hown3 hgrow3 hot3 hll3 hle hlv3 HRow HEl HOLL HOT2 hb2 h1
      go_wp2
      go_loopg [0, 5] ln' (fun g v i wr => ∃ k : Nat, k + g = ln' ∧ i = .int .i64 k ∧ Aside (Own wr w3.heap.size v (M.tell (LL.take k))) ∧ Below w3.heap.size w3 wr)
      case atStart => exact ⟨0, by omega, rfl, World.ownsRow_nil _ _ _ _, Below.refl _ _⟩
      case round =>
        obtain ⟨k, hk, rfl, HI, hin⟩ := hrel
        have hsz3 := hin.size
        by_cases hlt : k < ln'
        · obtain ⟨a', n', c', q1, s1⟩ := (HLV.out.at hLp).2 k hlt
          have hmem : LL.getD k [] ∈ LL := by rw [List.getD, List.getElem?_eq_getElem (by rw [← HN.out]; exact hlt)]; simp
          obtain ⟨x, hx⟩ : ∃ x, x = LL.getD k [] := ⟨_, rfl⟩
          rw [← hx] at s1 hmem
          have hxne := HNE.out x hmem
          have hxc := HCH.out x hmem
          have sw := s1.below hin
          rcases sw.1.cases with ⟨_, e⟩ | ⟨xb, xo, rfl, hxn, hxl, hxB, hxc2⟩
          · exact absurd e hxne
          have hx40 : n' ≤ 40 := by rw [← hxl]; exact ((M.chk_zero x).1 hxc).1
          have qc : wr.cell? ⟨lb, lo + k, none⟩ = some (.slice (some ⟨xb, xo, none⟩) n' c') := (hin.cell (p := ⟨lb, lo + k, none⟩) HLB.out).trans q1
          obtain ⟨m, rfl⟩ : ∃ m, n' = m + 1 := ⟨n' - 1, by omega⟩
          have hkey := (hxc2 m (by omega)).1
          obtain ⟨s, hs⟩ : ∃ s, s = M.sum x := ⟨_, rfl⟩
          obtain ⟨ky, hky⟩ : ∃ ky, ky = (x.getD m (0, 0)).1 := ⟨_, rfl⟩
          rw [← hky] at hkey
          have hxB3 : xb < w3.heap.size := by
            rcases s1.1.cases with ⟨_, e⟩ | ⟨xb', xo', e, _, _, hB3, _⟩
            · exact absurd e hxne
            · obtain ⟨rfl, rfl⟩ : xb = xb' ∧ xo = xo' := by simpa using e
              exact hB3
          have HS : Aside (∀ W, Later wr W → Calls Try.prog 62 #[.slice (some ⟨xb, xo, none⟩) (m + 1) c'] W fun e w' => e = .returned (.int .i64 s) ∧ Later wr w') := fun W hW => by
            rw [hs]
            refine (rsum_any (some ⟨xb, xo, none⟩) (m + 1) c' x W (sw.1.below hW.out (Nat.le_refl _)) hxc).mono ?_
            rintro e w' ⟨rfl, hb⟩
            exact ⟨rfl, hW.out.trans (hb.mono hW.out.size)⟩
          have HKey : Aside (∀ W, Below w3.heap.size wr W → W.cell? ⟨lb, lo + k, none⟩ = some (.slice (some ⟨xb, xo, none⟩) (m + 1) c') ∧ W.cell? ⟨xb, xo + m * 2, none⟩ = some (.int .i64 ky)) := fun W hW => ⟨(hW.cell (p := ⟨lb, lo + k, none⟩) HLB.out).trans qc, (hW.cell (p := ⟨xb, xo + m * 2, none⟩) hxB3).trans hkey⟩
          have ET : Aside (M.tell (LL.take (k + 1)) = M.tell (LL.take k) ++ [(ky, s)]) := by
            unfold Aside
            rw [tell_snoc LL k (by rw [← HN.out]; exact hlt), ← hx]
            have : M.tellOf x = (ky, s) := by unfold M.tellOf; rw [hxl, Nat.add_sub_cancel, hky, hs]
            rw [this]
          have HLen : Aside ((M.tell (LL.take k)).length + 1 ≤ 1000000) := by unfold Aside; rw [M.tell_length, List.length_take]; omega
          have hki : (k : Int) < (ln' : Int) := by omega
          have hm40 : (m : Int) ≤ 40 := by omega
          have hm0 : (0 : Int) ≤ (m : Int) := by omega
          have hm1 : (m : Int) < (m : Int) + 1 := by omega
          have hmw : IntKind.i64.wrap (m : Int) = (m : Int) := by rw [IntKind.wrap_i64]; omega
          have hmw2 : IntKind.i64.wrap ((m : Int) + 1 - 1) = (m : Int) := by rw [IntKind.wrap_i64]; omega
          have hmw3 : (m : Int) < ((m + 1 : Nat) : Int) := by omega
          clear q1 s1 sw hxc2 hs hky hxc hxne hmem hx hxl
          go_wp2_with fail
          go_region_held3 (fun W => W.cell? ⟨lb, lo + k, none⟩ = some (.slice (some ⟨xb, xo, none⟩) (m + 1) c') ∧ W.cell? ⟨xb, xo + m * 2, none⟩ = some (.int .i64 ky)) (first | (simp [*]; done) | exact hAnew.out | go_keep) (first | (go_at_call 62; refine (HS.out _ ((Below.refl _ _).drew)).mono ?_; rintro e w4 ⟨rfl, HL4⟩; have hAnew : Hid (w4.cell? ⟨lb, lo + k, none⟩ = some (.slice (some ⟨xb, xo, none⟩) (m + 1) c') ∧ w4.cell? ⟨xb, xo + m * 2, none⟩ = some (.int .i64 ky)) := HKey.out w4 (HL4.out.mono hsz3); obtain ⟨qc4, hkey4⟩ := hAnew.out; have hb4 : Below w3.heap.size w3 w4 := hin.trans (HL4.out.mono hsz3); have HI1 : Hid (Own (w4.alloc (.cells #[.int .i64 ky, .int .i64 s] 56)) w3.heap.size u0 (M.tell (LL.take k))) := World.ownsRow.alloc (ownsRow_other HI.out (grown_none HL4.out) (fun r e => by cases e)) _; have HR1 : Hid (Rd (w4.alloc (.cells #[.int .i64 ky, .int .i64 s] 56)) (some ⟨w4.heap.size, 0, none⟩) 1 [(ky, s)]) := one_rd w4 _ _) | (refine step_append_row rfl _ _ rfl w3.heap.size _ (M.tell (LL.take k)) rfl HI1.out ⟨w4.heap.size, 0, none⟩ (ky, s) rfl HR1.out HLen.out (by have := hb4.size; simp; omega) ?_; intro v5 w5 ho5 hb5; have hb6 : Below w3.heap.size w3 w5 := (hb4.alloc hb4.size _).trans hb5; have HB6 : Hid (Below w3.heap.size wr w5) := ((HL4.out.mono hsz3).alloc (by have := hb4.size; omega) _).trans hb5; obtain ⟨qc5, hkey5⟩ := HKey.out w5 HB6.out; have HO5 : Hid (Own w5 w3.heap.size v5 (M.tell (LL.take k) ++ [(ky, s)])) := ho5; clear ho5 hb5))
          have HO6 : Aside (Own w5 w3.heap.size v5 (M.tell (LL.take (k + 1)))) := by unfold Aside; rw [ET.out]; exact HO5.out
          clear HI1 HR1 HO5 hAnew qc4 hkey4 qc5 hkey5
          go_wp2
          go_roundg (gk - 1)
          case measure => omega
          case rel => exact ⟨k + 1, by omega, by go_num, HO6, hb6⟩
        · obtain rfl : k = ln' := by omega
          have HI1 : Aside (Own wr w3.heap.size u0 (M.tell LL)) := by
            have h5 := HI.out
            rw [List.take_of_length_le (by rw [← HN.out]; omega)] at h5
            exact h5
          obtain ⟨na, nc, rfl, hnr, hn1, hn2, hn3⟩ := HI1.out.rd
          have etl : (M.tell LL).length = k := by rw [M.tell_length]; exact HN.out.symm
          rw [etl] at hnr hn1 hn3
          rw [etl]
          have HSN : Aside (Sl wr na k nc (M.tell LL)) := ⟨hnr, hn1, hn2, hn3⟩
          obtain ⟨nb, no, rfl⟩ : ∃ nb no, na = some ⟨nb, no, none⟩ := by
            rcases HSN.out.1.cases with ⟨e, _⟩ | ⟨b', o', e, _⟩
            · omega
            · exact ⟨b', o', e⟩
          have HOT4 : Aside (OwnT wr w.heap.size v3 (T ++ [LL])) := HOT3.out.kept (grown_none hin) (fun r e => by cases e)
          have hb4 : Below w.heap.size w wr := hb3.trans (hin.mono hb3.size)
          have HTL : Aside ((T ++ [LL]).length = tn + 1) := by unfold Aside; rw [List.length_append, HT.out]; rfl
          clear hnr hn1 hn2 hn3 etl HI HI1 hk
          go_wp2
          go_roundg k
          case measure => omega
          case rel => exact ⟨nb, no, k, nc, tn + 1, M.tell LL, T ++ [LL], rfl, Nat.le_refl _, hLp, by omega, hlv2, HTL, HSN, HTC, HOT4, EB, hb4⟩


theorem rbuild_any (a : Option Addr) (n cap : Nat) (l : List (Int × Int)) (w : World) (h : Sl w a n cap l) (h0 : M.chk l = 0) :
    Calls Try.prog 32 #[.slice a n cap] w fun e w' => ∃ v, e = .returned v ∧ OwnT w' w.heap.size v (M.build l) ∧ Below w.heap.size w w' := by
  rcases h.1.cases with ⟨rfl, rfl⟩ | ⟨b, off, rfl, hn, _⟩
  · refine (rbuild_none a cap w).mono ?_
    rintro e w' ⟨rfl, hb⟩
    exact ⟨_, rfl, OwnT.nil _ _, hb⟩
  · exact rbuild_some b off n cap l w h hn h0

end Go.Proofs.Ytcgpgflnihjpiac
