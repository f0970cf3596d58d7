/- For every slice of rows and every number, the law TreeTrue returns true and leaves its arguments as they were. No condition. -/
import Derived.Test.YtcgpgflnihjpiabTRows
import Derived.Test.YtcgpgflnihjpiabChoose
import Derived.Test.YtcgpgflnihjpiabTBegun
import Derived.Test.YtcgpgflnihjpiabTree1
import Derived.Test.YtcgpgflnihjpiabOpenRow
namespace Go.Proofs.Ytcgpgflnihjpiab
open Go.ChangeShapes Go.WideShapes Go.ChangeAt Go.RowKit

set_option maxRecDepth 100000 in
set_option maxHeartbeats 4000000 in
theorem true_bad (a : Option Addr) (n cap : Nat) (l : List (Int × Int)) (k : Int) (w : World) (h : Sl w a n cap l) (hc : M.chk l ≠ 0) :
    Calls Try.prog 5 #[.slice a n cap, .int .i64 k] w fun e w' => e = .returned (.bool true) ∧ Below w.heap.size w w' := by
  have HB := build_bad a n cap l w h.1 h.len hc
  obtain ⟨c, he⟩ : ∃ c, c = M.chk l := ⟨_, rfl⟩
  rw [← he] at HB hc
  have hcb : (c != 0) = true := by simp [hc]
  have HB1 : Aside (Calls Try.prog 9 #[.slice a n cap] w fun e w' => e = .returned (.tuple #[.slice none 0 0, .int .i64 c]) ∧ Below w.heap.size w w') := HB
  clear HB h hc he
  go_enter Try.func5, Try.ntmps5
  go_wp2_with fail
  refine HB1.out.mono ?_
  rintro e w1 ⟨rfl, b1⟩
  go_wp2_with fail
  refine (tbegun_any _).mono ?_
  rintro e w2 ⟨rfl, b2⟩
  go_wp2
  go_ret
  exact ⟨rfl, below2 b1 b2⟩

theorem bt_any (a : Option Addr) (n cap : Nat) (l : List (Int × Int)) (w : World) (h : Sl w a n cap l) (hc : M.chk l = 0) :
    Calls Try.prog 9 #[.slice a n cap] w fun e w' => ∃ a' c', e = .returned (.tuple #[.slice a' (M.build l).length c', .int .i64 0]) ∧ TvS w' a' (M.build l).length c' (M.build l) ∧ Below w.heap.size w w' := by
  refine (build_any a n cap l w h).mono ?_
  rintro e w' ⟨v, rfl, ho, hb⟩
  rw [if_pos hc] at ho
  rw [hc]
  obtain ⟨a', n', c', rfl, ht⟩ := ho.tv
  have en := ht.1.1
  subst en
  exact ⟨a', c', rfl, ht, hb⟩

set_option maxRecDepth 100000 in
set_option maxHeartbeats 8000000 in
theorem true_good (a : Option Addr) (n cap : Nat) (l : List (Int × Int)) (kk : Int) (w : World) (h : Sl w a n cap l) (hc : M.chk l = 0) (hn : 0 < n) (h0 : -9223372036854775808 ≤ kk) (h1 : kk ≤ 9223372036854775807) :
    Calls Try.prog 5 #[.slice a n cap, .int .i64 kk] w fun e w' => e = .returned (.bool true) ∧ Below w.heap.size w w' := by
  have HS : Aside (Sl w a n cap l) := h
  obtain ⟨L1, L2, L3, L4, L5, L6⟩ := build_like l hc
  have hne : l ≠ [] := fun e => by have := h.1.1; rw [e] at this; simp at this; omega
  obtain ⟨T, hT⟩ : ∃ T, T = M.build l := ⟨_, rfl⟩
  obtain ⟨N, hN⟩ : ∃ N, N = T.length := ⟨_, rfl⟩
  have hE := build_tree l hc
  have hBig := build_big l hc
  have HB : Aside (∀ (a : Option Addr) (n cap : Nat) (W : World), Sl W a n cap l → Calls Try.prog 9 #[.slice a n cap] W fun e w' => ∃ a' c', e = .returned (.tuple #[.slice a' N c', .int .i64 0]) ∧ Aside (TvS w' a' N c' T) ∧ Below W.heap.size W w') := fun a n cap W hs => by rw [hN, hT]; exact bt_any a n cap l W hs hc
  rw [← hT] at L1 L2 L3 L4 L5 L6 hE hBig
  rw [← hN] at L3 L5 L6
  have hN0 : 0 < N := by
    rw [hN]
    rcases Nat.eq_zero_or_pos T.length with e | e
    · exact absurd (L2.1 (List.eq_nil_of_length_eq_zero e)) hne
    · exact e
  have HRows : Aside (∀ (a' : Option Addr) (c' : Nat) (W : World), TvS W a' N c' T → Calls Try.prog 13 #[.slice a' N c'] W fun e w' => ∃ xa xc, e = .returned (.tuple #[.slice xa n xc, .int .i64 0]) ∧ Aside (Sl w' xa n xc l) ∧ Below W.heap.size W w') := fun a' c' W ht => by
    refine (trows_ok a' N c' T W ht hBig hE).mono ?_
    rintro e w' ⟨v, rfl, ho, hb⟩
    rw [L1] at ho
    obtain ⟨xa, xc, rfl, hs⟩ := Own.sl ho
    rw [HS.out.1.1] at hs ⊢
    exact ⟨xa, xc, rfl, hs, hb⟩
  have HChk : Aside (∀ (a' : Option Addr) (c' : Nat) (W : World), TvS W a' N c' T → Calls Try.prog 18 #[.slice a' N c'] W fun e w' => e = .returned (.int .i64 0) ∧ Below W.heap.size W w') := fun a' c' W ht => by
    have := tcheck_any a' N c' T W ht hBig
    rwa [hE] at this
  have HTN : Aside (T.length = N) := hN.symm
  have HL3 : Aside (∀ i, i + 1 < N → (T.getD (i + 1) []).flatten = M.tell (T.getD i [])) := L3
  have HL4 : Aside (∀ L ∈ T, L.length ≤ 40 ∧ ∀ c ∈ L, c ≠ [] ∧ M.chk c = 0) := L4
  have HL5 : Aside ((T.getD (N - 1) []).length = 1) := L5 hne
  have hn40 : n ≤ 40 := by rw [← h.1.1]; exact ((M.chk_zero l).1 hc).1
  have hNb : ((N : Int) == 0) = false := by simp; omega
  have hnb : ((n : Int) == 0) = false := by simp; omega
  have hN7 : decide ((7 : Int) < (N : Int)) = false := by simp; omega
  obtain ⟨m, hm⟩ : ∃ m, N = m + 1 := ⟨N - 1, by omega⟩
  have hmw : IntKind.i64.wrap ((N : Int) - 1) = (m : Int) := by rw [IntKind.wrap_i64]; omega
  have HM : Aside (N = m + 1) := hm
  have hmN : m < N := by omega
  clear h L1 L2 L3 L4 L5 hE hBig hT hN hne hc hm
  go_enter Try.func5, Try.ntmps5
  go_wp2_with fail
  refine (HB.out a n cap w HS.out).mono ?_
  rintro e w1 ⟨ta, tc, rfl, HT1, b1⟩
  go_wp2_with fail
  refine (HRows.out ta tc w1 HT1.out).mono ?_
  rintro e w2 ⟨xa, xc, rfl, HX2, b2⟩
  have HT2 : Aside (TvS w2 ta N tc T) := HT1.out.below b2
  have q2 := below2 b1 b2
  clear b1 b2 HT1
  go_wp2_with fail
  refine (HB.out xa n xc w2 HX2.out).mono ?_
  rintro e w3 ⟨ua, uc, rfl, HU3, b3⟩
  have HT3 : Aside (TvS w3 ta N tc T) := HT2.out.below b3
  have HX3 : Aside (Sl w3 xa n xc l) := HX2.out.below b3
  have q3 := below2 q2 b3
  clear b3 HT2 HX2 q2
  go_wp2_with fail
  refine (HChk.out ta tc w3 HT3.out).mono ?_
  rintro e w4 ⟨rfl, b4⟩
  have HT4 : Aside (TvS w4 ta N tc T) := HT3.out.below b4
  have HX4 : Aside (Sl w4 xa n xc l) := HX3.out.below b4
  have HU4 : Aside (TvS w4 ua N uc T) := HU3.out.below b4
  have q4 := below2 q3 b4
  clear b4 HT3 HX3 HU3 q3
  go_wp2_with fail
  refine (same_any xa a n n xc cap l l w4 HX4.out.1 (HS.out.below q4).1 (by omega)).mono ?_
  rintro e w5 ⟨rfl, b5⟩
  have HT5 : Aside (TvS w5 ta N tc T) := HT4.out.below b5
  have HU5 : Aside (TvS w5 ua N uc T) := HU4.out.below b5
  have q5 := below2 q4 b5
  have hll : decide (l = l) = true := by simp
  clear b5 HT4 HX4 HU4 q4
  go_wp2_with fail
  refine (tsame_any ta ua N N tc uc T T w5 HT5.out.1 HU5.out.1 (by omega)).mono ?_
  rintro e w6 ⟨rfl, b6⟩
  have HT6 : Aside (TvS w6 ta N tc T) := HT5.out.below b6
  have q6 := below2 q5 b6
  have htt : decide (T = T) = true := by simp
  clear b6 HT5 HU5 q5
  obtain ⟨tb, to, rfl, hB, hcell⟩ := HT6.out.1.at hN0
  have HCell : Aside (∀ W, Below w6.heap.size w6 W → ∀ i, i < N → ∃ a' n' c', W.cell? ⟨tb, to + i, none⟩ = some (.slice a' n' c') ∧ LvS W a' n' c' (T.getD i [])) := fun W hW i hi => by
    obtain ⟨a', n', c', k1, k2⟩ := hcell i hi
    exact ⟨a', n', c', (hW.cell (p := ⟨tb, to + i, none⟩) hB).trans k1, k2.below hW⟩
  obtain ⟨za, zc, hz⟩ : ∃ za zc, w6.cell? ⟨tb, to + m, none⟩ = some (.slice za 1 zc) := by
    obtain ⟨a', n', c', k1, k2⟩ := hcell m hmN
    have : n' = 1 := by rw [← k2.1.1]; have := HL5.out; rw [HM.out, Nat.add_sub_cancel] at this; exact this
    subst this
    exact ⟨a', c', k1⟩
  clear hcell
  go_wp2_with fail
  refine (choose_any kk N w6 h0 h1 hN0 (by omega)).mono ?_
  rintro e w7 ⟨k, rfl, hk, rfl⟩
  by_cases hk0 : k = 0
  · subst hk0
    go_wp2_with fail
    refine (tbegun_any _).mono ?_
    rintro e w8 ⟨rfl, b8⟩
    have q8 := below2 q6 b8
    go_wp2
    go_ret
    exact ⟨rfl, q8⟩
  · obtain ⟨j, rfl⟩ : ∃ j, k = j + 1 := ⟨k - 1, by omega⟩
    have hkb : (((j : Int) + 1) == 0) = false := by simp; omega
    have hjw : IntKind.i64.wrap (j : Int) = (j : Int) := by rw [IntKind.wrap_i64]; omega
    obtain ⟨ka, kn, kc, qk, sk⟩ := HCell.out w7 (Below.refl _ _) (j + 1) hk
    obtain ⟨ja, jn, jc, qj, sj⟩ := HCell.out w7 (Below.refl _ _) j (by omega)
    obtain ⟨U, hU⟩ : ∃ U, U = T.getD (j + 1) [] := ⟨_, rfl⟩
    obtain ⟨V, hV⟩ : ∃ V, V = T.getD j [] := ⟨_, rfl⟩
    rw [← hU] at sk
    rw [← hV] at sj
    have hUm := HL4.out U (by rw [hU]; exact getD_memT T [] _ (by rw [HTN.out]; exact hk))
    have hVm := HL4.out V (by rw [hV]; exact getD_memT T [] _ (by rw [HTN.out]; omega))
    have hF : U.flatten = M.tell V := by rw [hU, hV]; exact HL3.out j hk
    rw [sk.1.1] at hUm
    rw [sj.1.1] at hVm
    obtain ⟨hkn, hUm⟩ := hUm
    obtain ⟨hjn, hVm⟩ := hVm
    have HF : Aside (U.flatten = M.tell V) := hF
    have HUm : Aside (∀ c ∈ U, c ≠ [] ∧ M.chk c = 0) := hUm
    have HVm : Aside (∀ c ∈ V, c ≠ [] ∧ M.chk c = 0) := hVm
    have HSk : Aside (LvS w7 ka kn kc U) := sk
    have HSj : Aside (LvS w7 ja jn jc V) := sj
    have HUn : Aside (U.length = kn) := sk.1.1
    have HVn : Aside (V.length = jn) := sj.1.1
    have HQk : Aside (∀ W, Below w7.heap.size w7 W → W.cell? ⟨tb, to + (j + 1), none⟩ = some (.slice ka kn kc)) := fun W hW => (hW.cell (p := ⟨tb, to + (j + 1), none⟩) hB).trans qk
    have HQj : Aside (∀ W, Below w7.heap.size w7 W → W.cell? ⟨tb, to + j, none⟩ = some (.slice ja jn jc)) := fun W hW => (hW.cell (p := ⟨tb, to + j, none⟩) hB).trans qj
    have hjN : (j : Int) + 1 < (N : Int) := by omega
    have hjN2 : (j : Int) < (N : Int) := by omega
    clear sk sj hU hV hF hUm hVm hz qk qj HB HRows HChk HL3 HL4 HL5 HT6
    have HFl : Aside (U.flatten.length = jn) := by unfold Aside; rw [HF.out, M.tell_length]; exact HVn.out
    have hqk7 := HQk.out w7 (Below.refl _ _)
    go_wp2
    go_loopg [12, 13] kn (fun g v ix ws => ∃ t : Nat, t + g = kn ∧ ix = .int .i64 t ∧ Aside (Own ws w7.heap.size v (U.take t).flatten) ∧ Below w7.heap.size w7 ws)
    case atStart => exact ⟨0, by omega, rfl, World.ownsRow_nil _ _ _ _, Below.refl _ _⟩
    case round =>
      obtain ⟨t, htg, rfl, HO, hbel⟩ := hrel
      have hsz := hbel.size
      have hqk := HQk.out wr hbel
      by_cases hlt : t < kn
      · obtain ⟨kb, ko, rfl⟩ : ∃ b o, ka = some ⟨b, o, none⟩ := by
          rcases HSk.out.1.2 with e | ⟨b', o', e, _⟩
          · omega
          · exact ⟨b', o', e⟩
        obtain ⟨hkB, hkc⟩ := HSk.out.1.at (by omega)
        obtain ⟨ya, yn, yc, q2, s2⟩ := hkc t hlt
        obtain ⟨y, hy⟩ : ∃ y, y = U.getD t [] := ⟨_, rfl⟩
        rw [← hy] at s2
        have hq2 : wr.cell? ⟨kb, ko + t, none⟩ = some (.slice ya yn yc) := (hbel.cell (p := ⟨kb, ko + t, none⟩) hkB).trans q2
        have HSy : Aside (Sl wr ya yn yc y) := s2.below hbel
        have hft := flat_take U t (by rw [HUn.out]; exact hlt)
        rw [← hy] at hft
        have HFt : Aside ((U.take (t + 1)).flatten = (U.take t).flatten ++ y) := hft
        have HBg : Aside ((U.take t).flatten.length + yn ≤ 1000000) := by
          unfold Aside
          have e1 := flat_le U (t + 1)
          rw [hft, List.length_append, s2.1.1, HFl.out] at e1
          omega
        have hti : (t : Int) < (kn : Int) := by omega
        clear hkc q2 s2 hy hft
        go_wp2_with (at_builtin; refine append_rd rfl _ _ rfl w7.heap.size _ (U.take t).flatten rfl HO.out ya yn yc y rfl HSy.out.1 HSy.out.2.2.2 HBg.out hbel.size ?_)
        intro v' w' ho' hb3
        have HO' : Aside (Own w' w7.heap.size v' (U.take (t + 1)).flatten) := by unfold Aside; rw [HFt.out]; exact ho'
        have hb4 := hbel.trans hb3
        clear ho' hb3
        go_wp2
        go_roundg (gk - 1)
        case measure => omega
        case rel => exact ⟨t + 1, by omega, by go_num, HO', hb4⟩
      · obtain rfl : t = kn := by omega
        have HO1 : Aside (Own wr w7.heap.size u12 (M.tell V)) := by
          have h5 := HO.out
          rw [List.take_of_length_le (by rw [HUn.out]; omega), HF.out] at h5
          exact h5
        obtain ⟨va, vc, hve, hvs⟩ := Own.sl HO1.out
        rw [M.tell_length, HVn.out] at hve hvs
        subst hve
        have HV : Aside (Sl wr va jn vc (M.tell V)) := hvs
        have hqj := HQj.out wr hbel
        obtain ⟨wo, rfl⟩ : ∃ wo, wo = wr := ⟨_, rfl⟩
        have q7 := below2 q6 hbel
        clear hvs HO HO1 htg
        go_wp2
        go_loopg [14] jn (fun g ix ws => ∃ t : Nat, t + g = jn ∧ ix = .int .i64 t ∧ Below wo.heap.size wo ws)
        case atStart => exact ⟨0, by omega, rfl, Below.refl _ _⟩
        case round =>
          obtain ⟨t2, htg, rfl, hb2⟩ := hrel
          by_cases hlt2 : t2 < jn
          · obtain ⟨jb, jo, rfl⟩ : ∃ b o, ja = some ⟨b, o, none⟩ := by
              rcases HSj.out.1.2 with e | ⟨b', o', e, _⟩
              · omega
              · exact ⟨b', o', e⟩
            obtain ⟨hjB, hjc⟩ := HSj.out.1.at (by omega)
            obtain ⟨ya, yn, yc, r2, s2⟩ := hjc t2 hlt2
            obtain ⟨y, hy⟩ : ∃ y, y = V.getD t2 [] := ⟨_, rfl⟩
            rw [← hy] at s2
            obtain ⟨hyne, hyc⟩ := HVm.out y (by rw [hy]; exact getD_memT V [] _ (by rw [HVn.out]; exact hlt2))
            have b7 : Below w7.heap.size w7 wr := hbel.trans (hb2.mono hsz)
            have hr1 := HQj.out wr b7
            have hr2 : wr.cell? ⟨jb, jo + t2, none⟩ = some (.slice ya yn yc) := (b7.cell (p := ⟨jb, jo + t2, none⟩) hjB).trans r2
            have s3 := s2.below b7
            rcases s3.1.cases with ⟨_, e⟩ | ⟨yb, yo, rfl, hyn, hyl, hyB, hycells⟩
            · exact absurd e hyne
            obtain ⟨mm, rfl⟩ : ∃ mm, yn = mm + 1 := ⟨yn - 1, by omega⟩
            have hy40 : mm + 1 ≤ 40 := by rw [← hyl]; exact ((M.chk_zero y).1 hyc).1
            have HSum := sum_any (some ⟨yb, yo, none⟩) (mm + 1) yc y wr s3.1 (by omega)
            rw [show M.sumV y = M.sum y by unfold M.sumV; rw [if_pos hyc], hyc] at HSum
            have hkey := (hycells mm (by omega)).1
            obtain ⟨ss, hss⟩ : ∃ ss, ss = M.sum y := ⟨_, rfl⟩
            obtain ⟨ky, hky⟩ : ∃ ky, ky = (y.getD mm (0, 0)).1 := ⟨_, rfl⟩
            rw [← hss] at HSum
            rw [← hky] at hkey
            have htell : (M.tell V).getD t2 (0, 0) = (ky, ss) := by
              have e1 : (M.tell V).getD t2 (0, 0) = M.tellOf y := by
                rw [hy]; unfold M.tell
                simp [List.getD, show t2 < V.length by rw [HVn.out]; exact hlt2]
              rw [e1]; unfold M.tellOf; rw [hyl, Nat.add_sub_cancel, hky, hss]
            rcases HV.out.1.cases with ⟨e, _⟩ | ⟨vb, vo, rfl, _, _, hvB, hvc⟩
            · omega
            obtain ⟨v1, v2⟩ := hvc t2 hlt2
            rw [htell] at v1 v2
            have HSm : Aside (Calls Try.prog 21 #[.slice (some ⟨yb, yo, none⟩) (mm + 1) yc] wr fun e w' => e = .returned (.tuple #[.int .i64 ss, .int .i64 0]) ∧ Below wr.heap.size wr w') := HSum
            have HKy : Aside (∀ W, Below wr.heap.size wr W → W.cell? ⟨yb, yo + mm * 2, none⟩ = some (.int .i64 ky)) := fun W hW => (hW.cell (p := ⟨yb, yo + mm * 2, none⟩) hyB).trans hkey
            have HV1 : Aside (∀ W, Below wo.heap.size wo W → W.cell? ⟨vb, vo + t2 * 2, none⟩ = some (.int .i64 ky) ∧ W.cell? ⟨vb, vo + t2 * 2 + 1, none⟩ = some (.int .i64 ss)) := fun W hW => ⟨(hW.cell (p := ⟨vb, vo + t2 * 2, none⟩) hvB).trans v1, (hW.cell (p := ⟨vb, vo + t2 * 2 + 1, none⟩) hvB).trans v2⟩
            have hti : (t2 : Int) < (jn : Int) := by omega
            have hmmb : (((mm : Int) + 1) == 0) = false := by simp; omega
            have hmmw : IntKind.i64.wrap (mm : Int) = (mm : Int) := by rw [IntKind.wrap_i64]; omega
            clear hjc r2 s2 hy hyne hyc s3 hycells HSum hkey hss hky htell hvc v1 v2 hyl
            go_wp2_with fail
            refine HSm.out.mono ?_
            rintro e w8 ⟨rfl, b8⟩
            have hk8 := HKy.out w8 b8
            have hb8 : Below wo.heap.size wo w8 := below2 hb2 b8
            obtain ⟨x1, x2⟩ := HV1.out w8 hb8
            clear HSm
            go_wp2_with fail
            go_quiet (fail)
            go_wp2
            go_roundg (gk - 1)
            case measure => omega
            case rel => exact ⟨t2 + 1, by omega, by go_num, below_drewN hb8 _⟩
          · obtain rfl : t2 = jn := by omega
            have q8 := below2 q7 hb2
            go_wp2_with fail
            refine (tbegun_any _).mono ?_
            rintro e w8 ⟨rfl, b8⟩
            have q9 := below2 q8 b8
            go_wp2
            go_ret
            exact ⟨rfl, q9⟩

theorem tv_none {w : World} : TvS w none 0 0 [] := ⟨⟨rfl, Or.inl rfl⟩, Nat.le_refl _, by simp [maxLen], fun _ => ⟨rfl, rfl⟩⟩
theorem rows_none (w : World) : Calls Try.prog 13 #[.slice none 0 0] w fun e w' => ∃ xa xc, e = .returned (.tuple #[.slice xa 0 xc, .int .i64 0]) ∧ Below w.heap.size w w' := by
  refine (trows_ok none 0 0 [] w tv_none (by intro c hc; simp [ground] at hc) rfl).mono ?_
  rintro e w' ⟨v, rfl, ho, hb⟩
  obtain ⟨xa, xc, rfl, hs⟩ := Own.sl ho
  exact ⟨xa, xc, rfl, hb⟩
theorem check_none' (w : World) : Calls Try.prog 18 #[.slice none 0 0] w fun e w' => e = .returned (.int .i64 0) ∧ Below w.heap.size w w' :=
  tcheck_any none 0 0 [] w tv_none (by intro c hc; simp [ground] at hc)

set_option maxRecDepth 100000 in
set_option maxHeartbeats 4000000 in
theorem true_none (a : Option Addr) (cap : Nat) (kk : Int) (w : World) :
    Calls Try.prog 5 #[.slice a 0 cap, .int .i64 kk] w fun e w' => e = .returned (.bool true) ∧ Below w.heap.size w w' := by
  go_enter Try.func5, Try.ntmps5
  go_wp2_with fail
  refine (build_none a cap w).mono ?_
  rintro e w1 ⟨rfl, b1⟩
  go_wp2_with fail
  refine (rows_none w1).mono ?_
  rintro e w2 ⟨xa, xc, rfl, b2⟩
  have q2 := below2 b1 b2
  go_wp2_with fail
  refine (build_none xa xc w2).mono ?_
  rintro e w3 ⟨rfl, b3⟩
  have q3 := below2 q2 b3
  go_wp2_with fail
  refine (check_none' w3).mono ?_
  rintro e w4 ⟨rfl, b4⟩
  have q4 := below2 q3 b4
  go_wp2_with fail
  refine (same_none xa a xc cap w4).mono ?_
  rintro e w5 ⟨rfl, rfl⟩
  go_wp2_with fail
  refine (tsame_none none none 0 0 _).mono ?_
  rintro e w6 ⟨rfl, rfl⟩
  go_wp2_with fail
  refine (tbegun_any _).mono ?_
  rintro e w7 ⟨rfl, b7⟩
  have q7 := below2 q4 b7
  go_wp2
  go_ret
  exact ⟨rfl, q7⟩

theorem true_walk (a : Option Addr) (n cap : Nat) (l : List (Int × Int)) (kk : Int) (w : World) (h : Sl w a n cap l) (h0 : -9223372036854775808 ≤ kk) (h1 : kk ≤ 9223372036854775807) :
    Calls Try.prog 5 #[.slice a n cap, .int .i64 kk] w fun e w' => e = .returned (.bool true) ∧ Below w.heap.size w w' := by
  by_cases hc : M.chk l = 0
  · rcases Nat.eq_zero_or_pos n with rfl | hn
    · exact true_none a cap kk w
    · exact true_good a n cap l kk w h hc hn h0 h1
  · exact true_bad a n cap l kk w h hc

set_option maxRecDepth 100000 in
theorem treeTrue_lifted (os : Os) (started : os.Started) (H : Type) (enc : TypeId × Value → H) :
    ReturnsInHanded {} Try.checked os 5 .any (Rows.treeTrueSpec.pre6 enc Try.prog Try.f5 Rows.treeTrueRow.domain false) (Rows.treeTrueSpec.post enc Try.prog Try.f5 false true false false) := by
  refine returnsInHanded_of_change (C := Try.checked) ownTry started (by kernel_rfl) Try.func5
    (ChangeSpec.witness6 (enc := enc) (C := Try.checked) false ⟨#[], #[.slice none 0 0, .int .i64 0], []⟩ 8 (by kernel_rfl) (by kernel_rfl) (by kernel_rfl) (by kernel_rfl)) ?_
  intro W base args ds gs before hval0 hW hcnd _
  have hval : ∀ (j : Nat) t v, Try.f5.params[j]? = some t → args[j]? = some v → Value.okWide Try.prog W .any base t v := hval0
  have hW' := hW
  obtain ⟨p, q, hA0, hV, rfl, hfz, hnd⟩ := hW
  have hA : DataW.TrodAll enc Try.prog W 0 (fun _ => true) true Try.f5.params.toList args.toList ds p := hA0
  rw [Try.params5] at hA hval
  obtain ⟨v0, vs0, d0, ds0, p0, q0, hargs, rfl, rfl, h0, r0⟩ := trodAll_cons hA
  obtain ⟨v1, vs1, d1, ds1, p1, q1, rfl, rfl, rfl, h1, r1⟩ := trodAll_cons r0
  obtain ⟨rfl, rfl, rfl⟩ := trodAll_nil r1
  obtain rfl : args = #[v0, v1] := by cases args; simp_all
  obtain ⟨rfl, rfl⟩ := trodVars_none hV
  obtain ⟨a0, len0, cap0, rfl⟩ := okWide_slice Try.underlying22 (hval 0 22 v0 rfl rfl)
  have k0 := h0
  have lt0 : ∀ x ∈ p0, x.block < W.heap.size := by obtain ⟨m, hm⟩ := k0; exact DataW.trod_lt m _ _ _ hm
  obtain ⟨l0, hrd0, hl0, hm0, hnil0⟩ : ∃ l, Rd W a0 len0 l ∧ len0 ≤ cap0 ∧ cap0 ≤ maxLen ∧ (a0 = none → len0 = 0 ∧ cap0 = 0) := by
    obtain ⟨fuel, hf⟩ := h0
    exact open_rows (by simpa [Value.cells] using hf)
  obtain ⟨a1, rfl, rfl, rfl, w1⟩ := open_int Try.underlying3 (hval 1 3 v1 rfl rfl) h1
  clear hA0 hval0
  refine (true_walk a0 len0 cap0 l0 a1 W ⟨hrd0, hl0, hm0, hnil0⟩ (bounds_i64 w1).1 (bounds_i64 w1).2).mono fun e W' ⟨he, bel⟩ => ?_
  subst he
  exact ⟨_, rfl, _, _, _, [], _, [], hW', trodAll_mk1 (shut_bool Try.underlying4 _), (trodAll_cons_mk (Below.trod laidTry (by kernel_rfl) (of_decide_eq_true (by kernel_rfl)) k0 bel lt0) (trodAll_cons_mk (shut_int Try.underlying3 w1) trodAll_mk0)), rfl, bel.frame _, fun h => by cases h⟩

theorem treeTrue_holds : Rows.TreeTrueSaid :=
  OpenClaim.holds_of_wide 5 Try.f5 rfl rfl rfl rfl rfl rfl rfl ⟨rfl, rfl, rfl, rfl, rfl⟩ rfl rfl rfl rfl rfl (by kernel_rfl) Try.func5 (by kernel_rfl)
    (of_decide_eq_true (by kernel_rfl)) (by unfold Func.isWrapper; first | (rw [if_pos (by decide +kernel)]; kernel_rfl) | (rw [if_neg (by decide +kernel)]; exact ⟨rfl, rfl⟩))
    (fun os started H enc _ => treeTrue_lifted os started H enc)
#print axioms treeTrue_holds
end Go.Proofs.Ytcgpgflnihjpiab
