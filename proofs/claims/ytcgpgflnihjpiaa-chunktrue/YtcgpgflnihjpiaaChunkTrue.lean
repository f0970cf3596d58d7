/- For every slice of rows, every level and every number, the law ChunkTrue returns true and leaves its arguments as they were: all chunks are all rows, each is as long as it may be, and what stands behind a chunk is cut as it would be alone. No condition. -/
import Derived.Test.YtcgpgflnihjpiaaChoose
import Derived.Test.YtcgpgflnihjpiaaLevel
import Derived.Test.YtcgpgflnihjpiaaCBegun
import Derived.Test.YtcgpgflnihjpiaaCut1
import Derived.Test.YtcgpgflnihjpiaaOpenRow
namespace Go.Proofs.Ytcgpgflnihjpiaa
open Go.ChangeShapes Go.WideShapes Go.ChangeAt Go.RowKit

set_option maxHeartbeats 4000000 in
theorem ctrue_bad (a : Option Addr) (n cap : Nat) (l : List (Int × Int)) (level k : Int) (w : World) (h : Sl w a n cap l) (hb : M.cutE l level ≠ 0) :
    Calls Try.prog 8 #[.slice a n cap, .int .i64 level, .int .i64 k] w fun e w' => e = .returned (.bool true) ∧ Below w.heap.size w w' := by
  have H := cut_any a n cap l level w h
  obtain ⟨c, hc⟩ : ∃ c, c = M.cutE l level := ⟨_, rfl⟩
  rw [← hc] at H hb
  have hne : (c != 0) = true := by simp [hb]
  have HH : Hid (Calls Try.prog 17 #[.slice a n cap, .int .i64 level] w fun e w' => HandsL w w' (M.cutV l level) c e) := H
  clear h hc hb H
  go_enter Try.func8, Try.ntmps8
  go_wp2_with fail
  refine HH.out.mono ?_
  rintro e w1 ⟨a1, n1, c1, rfl, _, _, _, _, b1⟩
  go_wp2_with fail
  refine (cbegun_any _).mono ?_
  rintro e w2 ⟨rfl, b2⟩
  have q2 := below2 b1 b2
  go_wp2
  go_ret
  exact ⟨rfl, q2⟩

set_option maxHeartbeats 4000000 in
theorem ctrue_none (a : Option Addr) (cap : Nat) (level k : Int) (w : World) (h : Sl w a 0 cap []) (hb : M.cutE [] level = 0) :
    Calls Try.prog 8 #[.slice a 0 cap, .int .i64 level, .int .i64 k] w fun e w' => e = .returned (.bool true) ∧ Below w.heap.size w w' := by
  have hz := M.cutE_zero hb
  go_enter Try.func8, Try.ntmps8
  go_wp2_with fail
  refine (cut_none a cap level w hz.2.1 hz.2.2).mono ?_
  rintro e w1 ⟨rfl, b1⟩
  have HS : Hid (Sl w a 0 cap []) := h
  clear h hz hb
  go_wp2_with fail
  refine wp_loop_rounds 1 ?_
  rw [rounds_succ]
  go_wp2_with fail
  refine (same_none none a 0 cap _).mono ?_
  rintro e w2 ⟨rfl, rfl⟩
  go_wp2_with fail
  refine (cbegun_any _).mono ?_
  rintro e w3 ⟨rfl, b3⟩
  have q3 := below2 b1 b3
  go_wp2
  go_ret
  exact ⟨rfl, q3⟩

set_option maxHeartbeats 16000000 in
theorem ctrue_some (b0 off0 n cap : Nat) (l : List (Int × Int)) (level k : Int) (w : World) (h : Sl w (some ⟨b0, off0, none⟩) n cap l) (hn0 : 0 < n) (hb : M.cutE l level = 0) (hk0 : -9223372036854775808 ≤ k) (hk1 : k ≤ 9223372036854775807) :
    Calls Try.prog 8 #[.slice (some ⟨b0, off0, none⟩) n cap, .int .i64 level, .int .i64 k] w fun e w' => e = .returned (.bool true) ∧ Below w.heap.size w w' := by
  have hz := M.cutE_zero hb
  have hn40 : n ≤ 40 := by rw [← h.1.1]; exact ((M.chk_zero l).1 hz.1).1
  have hcap := h.2.1
  have hcm : cap ≤ 9223372036854775807 := by have := h.2.2.1; unfold maxLen at this; omega
  have H := cut_any (some ⟨b0, off0, none⟩) n cap l level w h
  rw [M.cutV_ok hb, hb] at H
  have HH : Aside (Calls Try.prog 17 #[.slice (some ⟨b0, off0, none⟩) n cap, .int .i64 level] w fun e w' => HandsL w w' (M.cut level l) 0 e) := H
  have HS : Aside (Sl w (some ⟨b0, off0, none⟩) n cap l) := h
  have HZ : Aside (M.chk l = 0 ∧ 0 ≤ level ∧ level ≤ 9) := hz
  obtain ⟨LL, hLL⟩ : ∃ LL, LL = M.cut level l := ⟨_, rfl⟩
  have HLL : Aside (LL = M.cut level l) := hLL
  have hll1 : LL.length ≤ n := by rw [hLL, ← h.1.1]; exact M.cut_length_le level l
  have hlf : LL.flatten = l := by rw [hLL]; exact M.cut_flat level l
  have hll0 : 0 < LL.length := by
    by_cases e : LL.length = 0
    · have e2 : LL = [] := List.eq_nil_of_length_eq_zero e
      rw [e2] at hlf
      have := h.1.1
      rw [← hlf] at this
      simp at this; omega
    · omega
  have hlens : ∀ i, i < LL.length → 1 ≤ (LL.getD i []).length ∧ (LL.getD i []).length ≤ 6 ∧ (i + 1 < LL.length → 2 ≤ (LL.getD i []).length) := by rw [hLL]; exact M.cut_lens level l
  have hbeh : ∀ i, i < LL.length → LL.drop i = M.cut level (l.drop (LL.take i).flatten.length) ∧ (LL.take i).flatten.length < n := by
    intro i hi
    rw [hLL] at hi ⊢
    exact ⟨M.cut_behind level l i (by omega), by rw [← h.1.1]; exact M.cut_skip_lt level l i hi⟩
  have HLF : Aside (LL.flatten = l) := hlf
  have HLens : Aside (∀ i, i < LL.length → 1 ≤ (LL.getD i []).length ∧ (LL.getD i []).length ≤ 6 ∧ (i + 1 < LL.length → 2 ≤ (LL.getD i []).length)) := hlens
  have HBeh : Aside (∀ i, i < LL.length → LL.drop i = M.cut level (l.drop (LL.take i).flatten.length) ∧ (LL.take i).flatten.length < n) := hbeh
  have hfl : LL.flatten.length ≤ 40 := by rw [hlf, h.1.1]; exact hn40
  have HFL : Aside (LL.flatten.length ≤ 40) := hfl
  rw [← hLL] at HH
  obtain ⟨N, hN⟩ : ∃ N, N = LL.length := ⟨_, rfl⟩
  rw [← hN] at hll1 hll0 HLens HBeh
  have HN : Aside (N = LL.length) := hN
  clear hLL hlf hlens hbeh hfl hN H h hz hb
  go_enter Try.func8, Try.ntmps8
  go_wp2_with fail
  refine HH.out.mono ?_
  rintro e w1 ⟨ax, nx, cx, rfl, vx, hx1, hx2, hx3, b1⟩
  obtain rfl : nx = N := by rw [HN.out]; exact vx.1.symm
  obtain ⟨bx, ox, rfl⟩ : ∃ bx ox, ax = some ⟨bx, ox, none⟩ := by
    rcases vx.2 with e | ⟨bx, ox, e, _⟩
    · omega
    · exact ⟨bx, ox, e⟩
  have hxm : cx ≤ 9223372036854775807 := by unfold maxLen at hx2; omega
  have VX : Aside (Lv w1 (some ⟨bx, ox, none⟩) nx LL) := vx
  have hcell : ∀ W, Below w1.heap.size w1 W → ∀ i, i < nx → ∃ a' n' c', W.cell? ⟨bx, ox + i, none⟩ = some (.slice a' n' c') ∧ Sl W a' n' c' (LL.getD i []) := by
    intro W hW i hi
    have hv := VX.out.below hW
    rcases hv.2 with e | ⟨b', o', e, _, hc⟩
    · omega
    · obtain ⟨rfl, rfl⟩ : bx = b' ∧ ox = o' := by simpa using e
      exact hc i hi
  have HCell : Aside (∀ W, Below w1.heap.size w1 W → ∀ i, i < nx → ∃ a' n' c', W.cell? ⟨bx, ox + i, none⟩ = some (.slice a' n' c') ∧ Sl W a' n' c' (LL.getD i [])) := hcell
  clear vx hx2 hx3 hcell HH
  go_wp2_with fail
  go_loopg [9, 10] nx (fun g v i wr => ∃ j : Nat, j + g = nx ∧ i = .int .i64 j ∧ Aside (Own wr w1.heap.size v (LL.take j).flatten) ∧ Below w1.heap.size w1 wr)
  case atStart => exact ⟨0, by omega, rfl, World.ownsRow_nil _ _ _ _, Below.refl _ _⟩
  case round =>
    obtain ⟨j, hj, rfl, HO, hbel⟩ := hrel
    by_cases hlt : j < nx
    · obtain ⟨a', n', c', hc', s'⟩ := HCell.out wr hbel j hlt
      obtain ⟨g1, g2, g3⟩ := HLens.out j hlt
      have hn' : (LL.getD j []).length = n' := s'.1.1
      rw [hn'] at g1 g2 g3
      have eft : (LL.take (j + 1)).flatten = (LL.take j).flatten ++ LL.getD j [] := flat_take LL j (by rw [← HN.out]; exact hlt)
      have EFT : Aside ((LL.take (j + 1)).flatten = (LL.take j).flatten ++ LL.getD j []) := eft
      have hbig : Aside ((LL.take j).flatten.length + n' ≤ 1000000) := by
        have h3 := flat_le LL (j + 1)
        rw [eft, List.length_append, hn'] at h3
        have := HFL.out
        unfold Aside; omega
      have S' : Aside (Sl wr a' n' c' (LL.getD j [])) := s'
      clear hn' s' eft
      have h6d : decide ((6 : Int) < (n' : Int)) = false := by simp; omega
      have h0b : ((n' : Int) == 0) = false := by simp; omega
      by_cases h2 : n' < 2
      · have hl : ¬ j + 1 < nx := fun h => by have := g3 h; omega
        have hld : decide ((j : Int) + 1 < (nx : Int)) = false := by simp; omega
        have hl2 : nx ≤ j + 1 := by omega
        have h2d : decide ((n' : Int) < 2) = true := by simp; omega
        clear g3 hl
        go_wp2_with (at_builtin; refine append_rd rfl _ _ rfl w1.heap.size _ (LL.take j).flatten rfl HO.out a' n' c' (LL.getD j []) rfl S'.out.1 S'.out.2.2.2 hbig.out hbel.size ?_)
        intro v' w' ho' hb3
        have HO' : Aside (Own w' w1.heap.size v' (LL.take (j + 1)).flatten) := by unfold Aside; rw [EFT.out]; exact ho'
        have hb4 := hbel.trans hb3
        clear ho' hb3
        go_wp2
        go_roundg (gk - 1)
        case measure => omega
        case rel => exact ⟨j + 1, by omega, by go_num, HO', hb4⟩
      · have h2' : 2 ≤ n' := by omega
        have h2d : decide ((n' : Int) < 2) = false := by simp; omega
        clear g3
        go_wp2_with (at_builtin; refine append_rd rfl _ _ rfl w1.heap.size _ (LL.take j).flatten rfl HO.out a' n' c' (LL.getD j []) rfl S'.out.1 S'.out.2.2.2 hbig.out hbel.size ?_)
        intro v' w' ho' hb3
        have HO' : Aside (Own w' w1.heap.size v' (LL.take (j + 1)).flatten) := by unfold Aside; rw [EFT.out]; exact ho'
        have hb4 := hbel.trans hb3
        clear ho' hb3
        go_wp2
        go_roundg (gk - 1)
        case measure => omega
        case rel => exact ⟨j + 1, by omega, by go_num, HO', hb4⟩
    · obtain rfl : j = nx := by omega
      have HO1 : Aside (Own wr w1.heap.size u9 l) := by
        have h5 := HO.out
        rw [List.take_of_length_le (by rw [← HN.out]; omega), HLF.out] at h5
        exact h5
      obtain ⟨va, vc, hve, hvr, _⟩ := HO1.out.rd
      obtain ⟨vn, hvn⟩ : ∃ vn, vn = l.length := ⟨_, rfl⟩
      rw [← hvn] at hve hvr
      subst hve
      have HV : Aside (Rd wr va vn l ∧ vn ≤ 40) := ⟨hvr, by rw [hvn, HS.out.1.1]; exact hn40⟩
      have hb2 := below2 b1 hbel
      have hjz : ((j : Int) == 0) = false := by simp; omega
      clear HO HO1 hvr hvn
      go_wp2_with fail
      refine (same_any va (some ⟨b0, off0, none⟩) vn n vc cap l l wr HV.out.1 (HS.out.1.below hb2 (Nat.le_refl _)) (by have := HV.out.2; omega)).mono ?_
      rintro e w2 ⟨rfl, b2⟩
      have hll : decide (l = l) = true := by simp
      have hb3 := below2 hb2 b2
      have hx3 := below2 hbel b2
      clear hb2 hbel b2
      go_wp2_with fail
      refine (choose_any k j w2 hk0 hk1 hll0 (by omega)).mono ?_
      rintro e w3 ⟨at', rfl, hat, rfl⟩
      go_wp2_with fail
      go_loopg [12, 13] at' (fun g v i ws => ∃ t q : Nat, t + g = at' ∧ q ≤ 40 ∧ i = .int .i64 t ∧ v = .int .i64 q ∧ Aside (q = (LL.take t).flatten.length) ∧ w3 = ws)
      case atStart => exact ⟨0, 0, by omega, by omega, rfl, rfl, rfl, rfl⟩
      case round =>
        obtain ⟨t, q, ht, hq40, rfl, rfl, HQ, rfl⟩ := hrel
        by_cases hlt2 : t < at'
        · obtain ⟨a', n', c', hc', s'⟩ := HCell.out w3 hx3 t (by omega)
          have hn' : (LL.getD t []).length = n' := s'.1.1
          have e1 : q + n' = (LL.take (t + 1)).flatten.length := by rw [flat_take LL t (by rw [← HN.out]; omega), List.length_append, HQ.out, hn']
          have e2 : q + n' ≤ 40 := by rw [e1]; exact Nat.le_trans (flat_le LL (t + 1)) HFL.out
          have E1 : Aside (q + n' = (LL.take (t + 1)).flatten.length) := e1
          clear e1 hn' s'
          go_wp2
          go_roundg (gk - 1)
          case measure => omega
          case rel => exact ⟨t + 1, q + n', by omega, e2, by go_num, by go_num, E1, rfl⟩
        · obtain rfl : t = at' := by omega
          obtain ⟨hd1, hd2⟩ := HBeh.out t hat
          rw [← HQ.out] at hd1 hd2
          have HD1 : Aside (LL.drop t = M.cut level (l.drop q)) := hd1
          have hqc : q < cap := by omega
          have HR3 : Aside (Sl w3 (some ⟨b0, off0 + q * 2, none⟩) (n - q) (cap - q) (l.drop q)) := ⟨(HS.out.1.below hb3 (Nat.le_refl _)).drop q, by omega, by unfold maxLen; omega, by simp⟩
          have hcq : M.cutE (l.drop q) level = 0 := M.cutE_ok (M.chk_drop HZ.out.1 q) HZ.out.2.1 HZ.out.2.2
          have HC3 : Aside (Calls Try.prog 17 #[.slice (some ⟨b0, off0 + q * 2, none⟩) (n - q) (cap - q), .int .i64 level] w3 fun e w' => HandsL w3 w' (LL.drop t) 0 e) := by
            have h := cut_any (some ⟨b0, off0 + q * 2, none⟩) (n - q) (cap - q) (l.drop q) level w3 HR3.out
            rw [M.cutV_ok hcq, hcq, ← hd1] at h
            exact h
          have VX3 : Aside (Lv w3 (some ⟨bx, ox + t, none⟩) (j - t) (LL.drop t)) := (VX.out.below hx3).drop t
          have htc : t < cx := by omega
          clear hd1 hcq HR3
          go_wp2_with fail
          refine HC3.out.mono ?_
          rintro e w4 ⟨ay, ny, cy, rfl, vy, _, _, _, b4⟩
          have VY : Aside (Lv w4 ay ny (LL.drop t)) := vy
          have hb4 := below2 hb3 b4
          clear vy hb3
          go_wp2_with fail
          refine (cbegun_any _).mono ?_
          rintro e w5 ⟨rfl, b5⟩
          have hb5 := below2 hb4 b5
          have hx5 := below2 b4 b5
          clear hb4
          go_wp2_with fail
          refine (lsame_any _ ay _ ny _ cy (LL.drop t) (LL.drop t) w5 (VX3.out.below hx5) (VY.out.below b5) (by omega)).mono ?_
          rintro e w6 ⟨rfl, b6⟩
          have hb6 := below2 hb5 b6
          have hdd : decide (LL.drop t = LL.drop t) = true := by simp
          clear hb5 b5 b6 hx5 b4
          go_wp2
          go_ret
          exact ⟨rfl, hb6⟩

theorem ctrue_walk (a : Option Addr) (n cap : Nat) (l : List (Int × Int)) (level k : Int) (w : World) (h : Sl w a n cap l) (hk0 : -9223372036854775808 ≤ k) (hk1 : k ≤ 9223372036854775807) :
    Calls Try.prog 8 #[.slice a n cap, .int .i64 level, .int .i64 k] w fun e w' => e = .returned (.bool true) ∧ Below w.heap.size w w' := by
  by_cases hb : M.cutE l level = 0
  · rcases h.1.cases with ⟨rfl, rfl⟩ | ⟨b, off, rfl, hn, _⟩
    · exact ctrue_none a cap level k w h hb
    · exact ctrue_some b off n cap l level k w h hn hb hk0 hk1
  · exact ctrue_bad a n cap l level k w h hb

set_option maxRecDepth 100000 in
theorem chunkTrue_lifted (os : Os) (started : os.Started) (H : Type) (enc : TypeId × Value → H) :
    ReturnsInHanded {} Try.checked os 8 .any (Rows.chunkTrueSpec.pre6 enc Try.prog Try.f8 Rows.chunkTrueRow.domain false) (Rows.chunkTrueSpec.post enc Try.prog Try.f8 false true false false) := by
  refine returnsInHanded_of_change (C := Try.checked) ownTry started (by kernel_rfl) Try.func8
    (ChangeSpec.witness6 (enc := enc) (C := Try.checked) false ⟨#[], #[.slice none 0 0, .int .i64 0, .int .i64 0], []⟩ 8 (by kernel_rfl) (by kernel_rfl) (by kernel_rfl) (by kernel_rfl)) ?_
  intro W base args ds gs before hval0 hW hcnd _
  have hval : ∀ (j : Nat) t v, Try.f8.params[j]? = some t → args[j]? = some v → Value.okWide Try.prog W .any base t v := hval0
  have hW' := hW
  obtain ⟨p, q, hA0, hV, rfl, hfz, hnd⟩ := hW
  have hA : DataW.TrodAll enc Try.prog W 0 (fun _ => true) true Try.f8.params.toList args.toList ds p := hA0
  rw [Try.params8] at hA hval
  obtain ⟨v0, vs0, d0, ds0, p0, q0, hargs, rfl, rfl, h0, r0⟩ := trodAll_cons hA
  obtain ⟨v1, vs1, d1, ds1, p1, q1, rfl, rfl, rfl, h1, r1⟩ := trodAll_cons r0
  obtain ⟨v2, vs2, d2, ds2, p2, q2, rfl, rfl, rfl, h2, r2⟩ := trodAll_cons r1
  obtain ⟨rfl, rfl, rfl⟩ := trodAll_nil r2
  obtain rfl : args = #[v0, v1, v2] := by cases args; simp_all
  obtain ⟨rfl, rfl⟩ := trodVars_none hV
  obtain ⟨a0, len0, cap0, rfl⟩ := okWide_slice Try.underlying22 (hval 0 22 v0 rfl rfl)
  have k0 := h0
  have lt0 : ∀ x ∈ p0, x.block < W.heap.size := by obtain ⟨m, hm⟩ := k0; exact DataW.trod_lt m _ _ _ hm
  obtain ⟨l0, hrd0, hl0, hm0, hnil0⟩ : ∃ l, Rd W a0 len0 l ∧ len0 ≤ cap0 ∧ cap0 ≤ maxLen ∧ (a0 = none → len0 = 0 ∧ cap0 = 0) := by
    obtain ⟨fuel, hf⟩ := h0
    exact open_rows (by simpa [Value.cells] using hf)
  obtain ⟨a1, rfl, rfl, rfl, w1⟩ := open_int Try.underlying3 (hval 1 3 v1 rfl rfl) h1
  obtain ⟨a2, rfl, rfl, rfl, w2⟩ := open_int Try.underlying3 (hval 2 3 v2 rfl rfl) h2
  clear hA0 hval0
  refine (ctrue_walk a0 len0 cap0 l0 a1 a2 W ⟨hrd0, hl0, hm0, hnil0⟩ (bounds_i64 w2).1 (bounds_i64 w2).2).mono fun e W' ⟨he, bel⟩ => ?_
  subst he
  exact ⟨_, rfl, _, _, _, [], _, [], hW', trodAll_mk1 (shut_bool Try.underlying4 _), (trodAll_cons_mk (Below.trod laidTry (by kernel_rfl) (of_decide_eq_true (by kernel_rfl)) k0 bel lt0) (trodAll_cons_mk (shut_int Try.underlying3 w1) (trodAll_cons_mk (shut_int Try.underlying3 w2) trodAll_mk0))), rfl, bel.frame _, fun h => by cases h⟩

theorem chunkTrue_holds : Rows.ChunkTrueSaid :=
  OpenClaim.holds_of_wide 8 Try.f8 rfl rfl rfl rfl rfl rfl rfl ⟨rfl, rfl, rfl, rfl, rfl⟩ rfl rfl rfl rfl rfl (by kernel_rfl) Try.func8 (by kernel_rfl)
    (of_decide_eq_true (by kernel_rfl)) (by unfold Func.isWrapper; first | (rw [if_pos (by decide +kernel)]; kernel_rfl) | (rw [if_neg (by decide +kernel)]; exact ⟨rfl, rfl⟩))
    (fun os started H enc _ => chunkTrue_lifted os started H enc)
#print axioms chunkTrue_holds
end Go.Proofs.Ytcgpgflnihjpiaa
