/- The reference's ActBytes. -/
import Derived.Test.YtcgpgflnihjpiafGreatBLogReplays06
import Derived.Test.YtcgpgflnihjpiafGreatBLogReplays11
import Derived.Test.YtcgpgflnihjpiafGreatBLogReplays03
import Derived.Test.YtcgpgflnihjpiafGreatBLogReplays02
import Derived.Test.YtcgpgflnihjpiafGreatBLogReplays04
namespace Go.Proofs.YtcgpgflnihjpiafGreat
open Go.RowKit

theorem fmA_take {α : Type} (f : α → M.By) (d : α) (l : List α) (k : Nat) (h : k < l.length) : (l.take (k + 1)).flatMap f = (l.take k).flatMap f ++ f (l.getD k d) := by
  rw [List.take_succ_eq_append_getElem h, List.flatMap_append]
  simp [List.getD, h]
theorem getD_memA {α : Type} {l : List α} {k : Nat} {d : α} (h : k < l.length) : l.getD k d ∈ l := by
  rw [show l.getD k d = l[k] by simp [List.getD, h]]; exact List.getElem_mem h

set_option maxRecDepth 100000 in
set_option maxHeartbeats 16000000 in
theorem abytes_any (x : M.Act) (a : Option Addr) (m cap : Nat) (w : World) (hrc : Rc w a m x.chs) (hm : m ≤ 9223372036854775807) (h1 : x.one.length ≤ 9223372036854775807) (h2 : x.two.length ≤ 9223372036854775807) (hrg : ∀ c ∈ x.chs, M.inI c.2.1 ∧ M.inI c.2.2) :
    Calls Tryz.prog 22 #[actV x a m cap] w fun e w' => e = .returned (.tuple #[.string (M.str (if (M.wA x).2 = true then [] else (M.wA x).1)), .int .i64 (if (M.wA x).2 = true then 3 else 0)]) ∧ Below w.heap.size w w' := by
  obtain ⟨sB, hsB⟩ : ∃ sB, sB = M.str (if (M.wA x).2 = true then [] else (M.wA x).1) := ⟨_, rfl⟩
  obtain ⟨F, hF⟩ : ∃ F : Int, F = if (M.wA x).2 = true then 3 else 0 := ⟨_, rfl⟩
  have HBadA : Hid (¬ M.okA x → Hid (sB = ⟨#[]⟩ ∧ F = 3)) := fun h => by
    have hb := M.wA_bad h
    exact ⟨by rw [hsB, if_pos hb]; rfl, by rw [hF, if_pos hb]⟩
  have hGood : M.okA x → sB = M.str (M.pA x) ∧ F = 0 := fun h => by
    have hb := M.wA_ok h
    have hn : ¬ (M.wA x).2 = true := by rw [hb]; simp
    exact ⟨by rw [hsB, if_neg hn, hb], by rw [hF, if_neg hn]⟩
  rw [← hsB, ← hF]
  obtain ⟨p, hp⟩ : ∃ p, p = w.heap.size := ⟨_, rfl⟩
  obtain ⟨bs, hbsp⟩ : ∃ bs, bs = p + 1 + 1 := ⟨_, rfl⟩
  obtain ⟨kI, hkI⟩ : ∃ kI, kI = x.kind := ⟨_, rfl⟩
  obtain ⟨so, hso⟩ : ∃ so, so = M.str x.one := ⟨_, rfl⟩
  obtain ⟨st, hst⟩ : ∃ st, st = M.str x.two := ⟨_, rfl⟩
  obtain ⟨L1, hL1⟩ : ∃ L1, L1 = x.one.length := ⟨_, rfl⟩
  obtain ⟨L2, hL2⟩ : ∃ L2, L2 = x.two.length := ⟨_, rfl⟩
  have hs1 : so.size = L1 := by rw [hso, M.str_size, hL1]
  have hs2 : st.size = L2 := by rw [hst, M.str_size, hL2]
  obtain ⟨W, hW⟩ : ∃ W, W = w.alloc (.cells #[.int .i64 kI, .string so, .string st, .slice a m cap] 28) := ⟨_, rfl⟩
  obtain ⟨X1, hX1⟩ : ∃ X1, X1 = W.alloc (.cells #[.int .i64 kI, .int .i64 (L1 : Int), .int .i64 (L2 : Int), .int .i64 (m : Int)] 3) := ⟨_, rfl⟩
  have bW : Below w.heap.size w W := by rw [hW]; exact (Below.refl _ _).alloc (Nat.le_refl _) _
  have bX1 : Below W.heap.size W X1 := by rw [hX1]; exact (Below.refl _ _).alloc (Nat.le_refl _) _
  have hWs : W.heap.size = p + 1 := by rw [hW, hp]; simp
  have hX1s : X1.heap.size = bs := by rw [hX1, hbsp, ← hWs]; simp
  have hW0 : W.heap[p]? = some (.cells #[.int .i64 kI, .string so, .string st, .slice a m cap] 28 (0, 0)) := by rw [hW, hp]; exact heap_alloc_new _ _
  have hX0 : X1.heap[p]? = some (.cells #[.int .i64 kI, .string so, .string st, .slice a m cap] 28 (0, 0)) := (bX1.block p (by omega)).trans hW0
  have hX2 : X1.heap[p + 1]? = some (.cells #[.int .i64 kI, .int .i64 (L1 : Int), .int .i64 (L2 : Int), .int .i64 (m : Int)] 3 (0, 0)) := by rw [hX1, ← hWs]; exact heap_alloc_new _ _
  have bwX : Below w.heap.size w X1 := bW.trans (bX1.mono bW.size)
  have HBx : Hid (∀ V, Below bs X1 V → V.cell? ⟨p, 0, none⟩ = some (.int .i64 kI) ∧ V.cell? ⟨p, 1, none⟩ = some (.string so) ∧ V.cell? ⟨p, 2, none⟩ = some (.string st) ∧ V.cell? ⟨p, 3, none⟩ = some (.slice a m cap)) := fun V hV => by
    have blk := (hV.block p (by omega)).trans hX0
    exact ⟨by rw [cell_of_row _ _ _ _ _ _ blk]; rfl, by rw [cell_of_row _ _ _ _ _ _ blk]; rfl, by rw [cell_of_row _ _ _ _ _ _ blk]; rfl, by rw [cell_of_row _ _ _ _ _ _ blk]; rfl⟩
  have HBw : Hid (∀ V, Below bs X1 V → Below w.heap.size w V) := fun V hV => bwX.trans (hV.mono (by omega))
  have HRc : Hid (∀ V, Below bs X1 V → Rc V a m x.chs) := fun V hV => hrc.below (bwX.trans (hV.mono (by omega))) (Nat.le_refl _)
  have HRg : Hid (∀ c ∈ x.chs, M.inI c.2.1 ∧ M.inI c.2.2) := hrg
  have HLn : Aside (x.chs.length = m) := hrc.1
  obtain ⟨vs, hvs⟩ : ∃ vs : List Int, vs = [kI, (L1 : Int), (L2 : Int), (m : Int)] := ⟨_, rfl⟩
  have HSm : Hid (∀ k, k < 4 → X1.cell? ⟨p + 1, k, none⟩ = some (.int .i64 (vs.getD k 0))) := fun k hk => by
    rw [cell_of_row _ _ _ _ _ _ hX2, hvs]
    match k, hk with
    | 0, _ => rfl
    | 1, _ => rfl
    | 2, _ => rfl
    | 3, _ => rfl
  have HVs : Hid (vs = [kI, (L1 : Int), (L2 : Int), (m : Int)]) := hvs
  have HBad4 : Hid (∀ k, k < 4 → ¬ (0 ≤ vs.getD k 0 ∧ vs.getD k 0 ≤ 255) → ¬ M.okA x) := fun k hk hb hok => by
    obtain ⟨z1, z2, z3, z4, _⟩ := hok
    rw [← hkI] at z1
    rw [← hL1] at z2
    rw [← hL2] at z3
    rw [hrc.1] at z4
    apply hb
    rw [hvs]
    match k, hk with
    | 0, _ => show 0 ≤ kI ∧ kI ≤ 255; omega
    | 1, _ => show 0 ≤ (L1 : Int) ∧ (L1 : Int) ≤ 255; omega
    | 2, _ => show 0 ≤ (L2 : Int) ∧ (L2 : Int) ≤ 255; omega
    | 3, _ => show 0 ≤ (m : Int) ∧ (m : Int) ≤ 255; omega
  have HGood0 : Hid (M.okA x → sB = M.str (M.pA x) ∧ F = 0) := hGood
  have HX1 : Hid (X1 = (w.alloc (.cells #[.int .i64 kI, .string so, .string st, .slice a m cap] 28)).alloc (.cells #[.int .i64 kI, .int .i64 (L1 : Int), .int .i64 (L2 : Int), .int .i64 (m : Int)] 3)) := by rw [← hW]; exact hX1
  have HP : Aside (p = w.heap.size) := hp
  have HX1s : Aside (X1.heap.size = bs) := hX1s
  have HKI : Hid (kI = x.kind) := hkI
  have HSo : Hid (so = M.str x.one) := hso
  have HSt0 : Hid (st = M.str x.two) := hst
  have HL1 : Aside (L1 = x.one.length) := hL1
  have HL2 : Aside (L2 = x.two.length) := hL2
  have hL1b : L1 ≤ 9223372036854775807 := by omega
  have hL2b : L2 ≤ 9223372036854775807 := by omega
  have HZ : Hid (Below w.heap.size w X1) := bwX
  have c0 : W.cell? ⟨p, 0, none⟩ = some (.int .i64 kI) := by rw [cell_of_row _ _ _ _ _ _ hW0]; rfl
  have c1 : W.cell? ⟨p, 1, none⟩ = some (.string so) := by rw [cell_of_row _ _ _ _ _ _ hW0]; rfl
  have c2 : W.cell? ⟨p, 2, none⟩ = some (.string st) := by rw [cell_of_row _ _ _ _ _ _ hW0]; rfl
  have c3 : W.cell? ⟨p, 3, none⟩ = some (.slice a m cap) := by rw [cell_of_row _ _ _ _ _ _ hW0]; rfl
  rw [hW, hp] at c0 c1 c2 c3
  unfold actV
  rw [← hkI, ← hso, ← hst]
  clear hsB hF hGood hp hbsp hkI hso hst hL1 hL2 hW hX1 bW bX1 hWs hX1s hW0 hX0 hX2 bwX hrc hrg hvs h1 h2
  go_enter Tryz.func22, Tryz.ntmps22
  go_wp2_with fail
  rw [← HX1.out, ← HP.out]
  clear c0 c1 c2 c3
  go_loopg [5] 4 (fun g i wr => ∃ k : Nat, k + g = 4 ∧ i = .int .i64 k ∧ Aside (∀ j, j < k → 0 ≤ vs.getD j 0 ∧ vs.getD j 0 ≤ 255) ∧ wr = X1)
  case atStart => exact ⟨0, by omega, rfl, by unfold Aside; intro j hj; omega, rfl⟩
  case round =>
    obtain ⟨k, hk, rfl, HAk, hwr⟩ := hrel
    have hwr2 := hwr.symm
    subst hwr2
    clear hwr
    by_cases hk4 : k < 4
    · have hki : (k : Int) < 4 := by omega
      have hki2 : decide ((k : Int) < 4) = true := by simp; omega
      have cs := HSm.out k hk4
      have hbad := HBad4.out k hk4
      have hnext : (0 ≤ vs.getD k 0 ∧ vs.getD k 0 ≤ 255) → ∀ j, j < k + 1 → 0 ≤ vs.getD j 0 ∧ vs.getD j 0 ≤ 255 := fun h j hj => by
        by_cases hjk : j < k
        · exact HAk.out j hjk
        · obtain rfl : j = k := by omega
          exact h
      obtain ⟨v, hv⟩ : ∃ v, v = vs.getD k 0 := ⟨_, rfl⟩
      rw [← hv] at cs hbad hnext
      have HNext : Hid ((0 ≤ v ∧ v ≤ 255) → ∀ j, j < k + 1 → 0 ≤ vs.getD j 0 ∧ vs.getD j 0 ≤ 255) := hnext
      have HBadk : Hid (¬ (0 ≤ v ∧ v ≤ 255) → ¬ M.okA x) := hbad
      clear hv hnext hbad
      by_cases hvv : 0 ≤ v ∧ v ≤ 255
      · have KW : Hid (∀ V, Calls Tryz.prog 64 #[.int .i64 v, .int .i64 0, .int .i64 255] V fun e w' => e = .returned (.bool true) ∧ w' = V) := fun V => within_yes v 0 255 V hvv.1 hvv.2
        have HA2 : Aside (∀ j, j < k + 1 → 0 ≤ vs.getD j 0 ∧ vs.getD j 0 ≤ 255) := HNext.out hvv
        clear hvv
        go_wp2_with (go_at_call 64; refine (KW.out _).mono ?_; rintro e w2 ⟨rfl, rfl⟩)
        go_roundg (gk - 1)
        case measure => omega
        case rel => exact ⟨k + 1, by omega, by go_num, HA2, rfl⟩
      · have KW : Hid (∀ V, Calls Tryz.prog 64 #[.int .i64 v, .int .i64 0, .int .i64 255] V fun e w' => e = .returned (.bool false) ∧ w' = V) := fun V => within_no v 0 255 V (by omega)
        have HBad : Hid (sB = ⟨#[]⟩ ∧ F = 3) := HBadA.out (HBadk.out hvv)
        clear hvv
        go_wp2_with (go_at_call 64; refine (KW.out _).mono ?_; rintro e w2 ⟨rfl, rfl⟩)
        go_ret2
        exact ⟨by rw [HBad.out.1, HBad.out.2]; rfl, HZ.out⟩
    · obtain rfl : k = 4 := by omega
      have a0 := HAk.out 0 (by omega)
      have a1 := HAk.out 1 (by omega)
      have a2 := HAk.out 2 (by omega)
      have a3 := HAk.out 3 (by omega)
      rw [HVs.out] at a0 a1 a2 a3
      have a0 : 0 ≤ kI ∧ kI ≤ 255 := a0
      have a1 : 0 ≤ (L1 : Int) ∧ (L1 : Int) ≤ 255 := a1
      have a2 : 0 ≤ (L2 : Int) ∧ (L2 : Int) ≤ 255 := a2
      have a3 : 0 ≤ (m : Int) ∧ (m : Int) ≤ 255 := a3
      obtain ⟨kd, rfl⟩ : ∃ kd : Nat, kI = (kd : Int) := ⟨kI.toNat, by omega⟩
      have hkd : kd < 256 := by omega
      have hL1s : L1 < 256 := by omega
      have hL2s : L2 < 256 := by omega
      have hm256 : m < 256 := by omega
      have HKd : Hid ((kd : Int) = x.kind) := HKI.out
      have HGoodA : Hid ((∀ c ∈ x.chs, M.okC c) → sB = M.str (M.pA x) ∧ F = 0) := fun h => HGood0.out ⟨by rw [← HKd.out]; omega, by rw [← HL1.out]; omega, by rw [← HL2.out]; omega, by rw [HLn.out]; omega, h⟩
      have HX17 : Hid (Below bs X1 X1) := Below.refl _ _
      have HSV : Hid (∀ V, (Below bs X1 V ∧ Kp X1 V) → V.cell? ⟨p, 0, none⟩ = some (.int .i64 (kd : Int)) ∧ V.cell? ⟨p, 1, none⟩ = some (.string so) ∧ V.cell? ⟨p, 2, none⟩ = some (.string st) ∧ V.cell? ⟨p, 3, none⟩ = some (.slice a m cap)) := fun V hV => HBx.out V (HX17.out.trans hV.1)
      have hzx : bs ≤ X1.heap.size := by rw [HX1s.out]; exact Nat.le_refl _
      have hwu : IntKind.u8.wrap (kd : Int) = (kd : Int) := by rw [IntKind.wrap_u8]; omega
      have HBd : Hid (Below bs X1 X1.drew ∧ Kp X1 X1.drew) := ⟨(Below.refl _ _).drew, Kp.of ((Below.refl _ _).drew)⟩
      have pbb : Below X1.heap.size X1 (X1.alloc (.cells #[.int .u8 (kd : Int)] 5)).drew := ((Below.refl _ _).alloc (Nat.le_refl _) _).drew
      have pb9 : Hid (Below bs X1 (X1.alloc (.cells #[.int .u8 (kd : Int)] 5)).drew ∧ Kp X1 (X1.alloc (.cells #[.int .u8 (kd : Int)] 5)).drew) := ⟨pbb.mono hzx, Kp.of pbb⟩
      have HO9 : Hid (OwnB (X1.alloc (.cells #[.int .u8 (kd : Int)] 5)).drew bs (.slice (some ⟨X1.heap.size, 0, none⟩) 1 1) [M.b1 (kd : Int)]) := ownsRow_lower (ownsRow_later (ownB_num X1 kd hkd) ((Below.refl _ _).drew)) hzx
      have HZ9 : Hid (bs ≤ (X1.alloc (.cells #[.int .u8 (kd : Int)] 5)).drew.heap.size) := Nat.le_trans hzx pbb.size
      have HZx : Hid (bs ≤ X1.drew.heap.size) := hzx
      obtain ⟨ml, hml⟩ : ∃ ml, ml = x.one.length + 1 := ⟨_, rfl⟩
      have hml5 : ml ≤ 256 := by rw [hml, ← HL1.out]; omega
      have HPl : Hid ((M.pT x.one).length = ml) := by unfold Hid M.pT; rw [List.length_cons, hml]
      have HTx : Hid (∀ V, Calls Tryz.prog 65 #[.string so] V fun e w' => ∃ a c, e = .returned (.slice (some ⟨a, 0, none⟩) ml c) ∧ SrcB w' a (M.pT x.one) ∧ V.heap.size ≤ a ∧ Below V.heap.size V w') := fun V => by
        rw [HSo.out, hml]; exact texted_any x.one V (by rw [← HL1.out]; exact hL1s)
      clear a0 a1 a2 a3 pbb hml
      go_wp2_with fail
      refine wp_region_till 8 (fun V => V.cell? ⟨p, 0, none⟩ = some (.int .i64 (kd : Int)) ∧ V.cell? ⟨p, 1, none⟩ = some (.string so) ∧ V.cell? ⟨p, 2, none⟩ = some (.string st) ∧ V.cell? ⟨p, 3, none⟩ = some (.slice a m cap)) (by kernel_rfl) (HSV.out _ HBd.out) (fun hHeld => ?_)
      refine till_go 0 (v := .pointer (some ⟨p, 0, none⟩)) rfl (by decide) (by kernel_rfl) (by kernel_rfl) (by kernel_rfl) (fun _ _ _ h => h) (Or.inl ⟨by rfl, fun V _ => (by go_simp)⟩) hHeld ?_
      try simp only [Act.put]
      refine till_take 1 (v := .int .i64 (kd : Int)) rfl (by decide) (by kernel_rfl) (by kernel_rfl) (by kernel_rfl) (by kernel_rfl) (by kernel_rfl) (fun _ _ _ h => h) (Or.inl ⟨by rfl, fun V hV => (by obtain ⟨v0, v1, v2, v3⟩ := hV; go_simp)⟩) hHeld ?_
      try simp only [Act.put]
      refine till_go 2 (v := .int .u8 (kd : Int)) rfl (by decide) (by kernel_rfl) (by kernel_rfl) (by kernel_rfl) (fun _ _ _ h => h) (Or.inl ⟨by rfl, fun V _ => (by go_simp)⟩) hHeld ?_
      try simp only [Act.put]
      refine till_go 4 (v := .pointer (some ⟨p, 1, none⟩)) rfl (by decide) (by kernel_rfl) (by kernel_rfl) (by kernel_rfl) (fun _ _ _ h => h) (Or.inl ⟨by rfl, fun V _ => (by go_simp)⟩) hHeld ?_
      try simp only [Act.put]
      refine till_take 5 (v := .string so) rfl (by decide) (by kernel_rfl) (by kernel_rfl) (by kernel_rfl) (by kernel_rfl) (by kernel_rfl) (fun _ _ _ h => h) (Or.inl ⟨by rfl, fun V hV => (by obtain ⟨v0, v1, v2, v3⟩ := hV; go_simp)⟩) hHeld ?_
      try simp only [Act.put]
      refine till_two 3 6 rfl rfl (by decide) (by decide) (by kernel_rfl) (fun K hK => ?hA) (fun K hK => ?hB)
      case hA =>
        go_simp
        refine hK.out _ _ (HSV.out _ pb9.out) (fun hHeld => ?_)
        clear hK K
        refine till_step 6 rfl (by decide) (by kernel_rfl) (fun K hK => ?_)
        go_simp
        refine (HTx.out _).mono ?_
        rintro e w7 ⟨ta, tc, rfl, ts, _, tb⟩
        have tb : Below (X1.alloc (.cells #[.int .u8 (kd : Int)] 5)).drew.heap.size (X1.alloc (.cells #[.int .u8 (kd : Int)] 5)).drew w7 := tb
        have R7 : Hid (Below bs X1 w7 ∧ Kp X1 w7) := ⟨pb9.out.1.trans (tb.mono HZ9.out), pb9.out.2.trans (Kp.of tb)⟩
        have HO7 : Hid (OwnB w7 bs (.slice (some ⟨X1.heap.size, 0, none⟩) 1 1) [M.b1 (kd : Int)]) := ownsRow_later HO9.out tb
        have HT7 : Hid (SrcB w7 ta (M.pT x.one)) := ts
        have hz7 : Hid (bs ≤ w7.heap.size) := Nat.le_trans HZ9.out tb.size
        refine hK.out _ _ (HSV.out _ R7.out) (fun hHeld => ?_)
        clear hK K ts tb
        refine till_step 7 rfl (by decide) (by kernel_rfl) (fun K hK => ?_)
        refine step_bys rfl _ _ rfl bs _ [M.b1 (kd : Int)] rfl HO7.out ta ml tc (M.pT x.one) rfl HPl.out HT7.out (by simp; omega) hz7.out ?_
        intro v6 w6 o6 g6
        obtain ⟨gb6, gk6⟩ := ownB_grown HO7.out g6 hz7.out
        have R6 : Hid (Below bs X1 w6 ∧ Kp X1 w6) := ⟨R7.out.1.trans gb6, R7.out.2.trans gk6⟩
        have HO6 : Hid (OwnB w6 bs v6 ([M.b1 (kd : Int)] ++ M.pT x.one)) := o6
        refine hK.out _ _ (HSV.out _ R6.out) (fun hHeld => ?_)
        clear hK K o6 g6 gb6 gk6
        refine till_last rfl (by kernel_rfl) (by kernel_rfl) (fun K hK => ?_) _
        go_simp
        refine hK.out _ _ ?_
        clear hK K
        obtain ⟨va, vl, vc, hv⟩ := ownB_slice HO6.out
        subst hv
        obtain ⟨lk, hlk⟩ : ∃ lk, lk = [M.b1 (kd : Int)] ++ M.pT x.one := ⟨_, rfl⟩
        have Hlk : Hid (lk = [M.b1 (kd : Int)] ++ M.pT x.one) := hlk
        have hlk5 : lk.length ≤ 300 := by rw [hlk, List.length_append, HPl.out]; simp; omega
        rw [← hlk] at HO6
        have HX16 : Hid (Below bs X1 w6) := HX17.out.trans R6.out.1
        have HO6i : Hid (OwnB w6 bs (.slice va vl vc) lk) := HO6
        have hz6 : Hid (bs ≤ w6.heap.size) := by unfold Hid; have := HX16.out.size; rw [HX1s.out] at this; exact this
        clear HSV HBd pb9 HO9 HZ9 HZx HTx HPl hml5 hlk HX17 HO6 R6 hzx
        obtain ⟨wx, hwx⟩ : ∃ wx, wx = w6 := ⟨_, rfl⟩
        subst hwx
        have HX17 : Hid (Below bs X1 wx) := HX16
        have hzx : bs ≤ wx.heap.size := hz6.out
        have HSV : Hid (∀ V, (Below bs wx V ∧ Kp wx V) → V.cell? ⟨p, 0, none⟩ = some (.int .i64 (kd : Int)) ∧ V.cell? ⟨p, 1, none⟩ = some (.string so) ∧ V.cell? ⟨p, 2, none⟩ = some (.string st) ∧ V.cell? ⟨p, 3, none⟩ = some (.slice a m cap)) := fun V hV => HBx.out V (HX17.out.trans hV.1)
        have HBd : Hid (Below bs wx wx.drew ∧ Kp wx wx.drew) := ⟨(Below.refl _ _).drew, Kp.of ((Below.refl _ _).drew)⟩
        have hwm : IntKind.u8.wrap (m : Int) = (m : Int) := by rw [IntKind.wrap_u8]; omega
        have pbb : Below wx.heap.size wx (wx.alloc (.cells #[.int .u8 (m : Int)] 5)).drew := ((Below.refl _ _).alloc (Nat.le_refl _) _).drew
        have pb9 : Hid (Below bs wx (wx.alloc (.cells #[.int .u8 (m : Int)] 5)).drew ∧ Kp wx (wx.alloc (.cells #[.int .u8 (m : Int)] 5)).drew) := ⟨pbb.mono hzx, Kp.of pbb⟩
        have HO9 : Hid (OwnB (wx.alloc (.cells #[.int .u8 (m : Int)] 5)).drew bs (.slice va vl vc) lk) := ownsRow_later HO6i.out pbb
        have HOx : Hid (OwnB wx.drew bs (.slice va vl vc) lk) := ownsRow_later HO6i.out ((Below.refl _ _).drew)
        have HS9 : Hid (SrcB (wx.alloc (.cells #[.int .u8 (m : Int)] 5)).drew wx.heap.size [M.b1 (m : Int)]) := (srcB_num wx m hm256).later ((Below.refl _ _).drew)
        have HZ9 : Hid (bs ≤ (wx.alloc (.cells #[.int .u8 (m : Int)] 5)).drew.heap.size) := Nat.le_trans hzx pbb.size
        have HZx : Hid (bs ≤ wx.drew.heap.size) := hzx
        have HLt : Hid (∀ k, (Value.slice va vl vc).ownBlock = some k → k < wx.heap.size) := ownB_lt HO6i.out
        obtain ⟨ml, hml⟩ : ∃ ml, ml = x.two.length + 1 := ⟨_, rfl⟩
        have hml5 : ml ≤ 256 := by rw [hml, ← HL2.out]; omega
        have HPl : Hid ((M.pT x.two).length = ml) := by unfold Hid M.pT; rw [List.length_cons, hml]
        have HTx : Hid (∀ V, Calls Tryz.prog 65 #[.string st] V fun e w' => ∃ a c, e = .returned (.slice (some ⟨a, 0, none⟩) ml c) ∧ SrcB w' a (M.pT x.two) ∧ V.heap.size ≤ a ∧ Below V.heap.size V w') := fun V => by
          rw [HSt0.out, hml]; exact texted_any x.two V (by rw [← HL2.out]; exact hL2s)
        clear pbb hml
        go_wp2_with fail
        refine wp_region_till 11 (fun V => V.cell? ⟨p, 0, none⟩ = some (.int .i64 (kd : Int)) ∧ V.cell? ⟨p, 1, none⟩ = some (.string so) ∧ V.cell? ⟨p, 2, none⟩ = some (.string st) ∧ V.cell? ⟨p, 3, none⟩ = some (.slice a m cap)) (by kernel_rfl) (HSV.out _ HBd.out) (fun hHeld => ?_)
        refine till_go 0 (v := .slice va vl vc) rfl (by decide) (by kernel_rfl) (by kernel_rfl) (by kernel_rfl) (fun _ _ _ h => h) (Or.inl ⟨by rfl, fun V _ => (by go_simp)⟩) hHeld ?_
        try simp only [Act.put]
        refine till_go 1 (v := .pointer (some ⟨p, 2, none⟩)) rfl (by decide) (by kernel_rfl) (by kernel_rfl) (by kernel_rfl) (fun _ _ _ h => h) (Or.inl ⟨by rfl, fun V _ => (by go_simp)⟩) hHeld ?_
        try simp only [Act.put]
        refine till_take 2 (v := .string st) rfl (by decide) (by kernel_rfl) (by kernel_rfl) (by kernel_rfl) (by kernel_rfl) (by kernel_rfl) (fun _ _ _ h => h) (Or.inl ⟨by rfl, fun V hV => (by obtain ⟨v0, v1, v2, v3⟩ := hV; go_simp)⟩) hHeld ?_
        try simp only [Act.put]
        refine till_go 5 (v := .pointer (some ⟨p, 3, none⟩)) rfl (by decide) (by kernel_rfl) (by kernel_rfl) (by kernel_rfl) (fun _ _ _ h => h) (Or.inl ⟨by rfl, fun V _ => (by go_simp)⟩) hHeld ?_
        try simp only [Act.put]
        refine till_take 6 (v := .slice a m cap) rfl (by decide) (by kernel_rfl) (by kernel_rfl) (by kernel_rfl) (by kernel_rfl) (by kernel_rfl) (fun _ _ _ h => h) (Or.inl ⟨by rfl, fun V hV => (by obtain ⟨v0, v1, v2, v3⟩ := hV; go_simp)⟩) hHeld ?_
        try simp only [Act.put]
        refine till_go 7 (v := .int .i64 (m : Int)) rfl (by decide) (by kernel_rfl) (by kernel_rfl) (by kernel_rfl) (fun _ _ _ h => h) (Or.inl ⟨by rfl, fun V _ => (by go_simp)⟩) hHeld ?_
        try simp only [Act.put]
        refine till_go 8 (v := .int .u8 (m : Int)) rfl (by decide) (by kernel_rfl) (by kernel_rfl) (by kernel_rfl) (fun _ _ _ h => h) (Or.inl ⟨by rfl, fun V _ => (by go_simp)⟩) hHeld ?_
        try simp only [Act.put]
        refine till_two 3 9 rfl rfl (by decide) (by decide) (by kernel_rfl) (fun K hK => ?h8A) (fun K hK => ?h8B)
        case h8A =>
          go_simp
          refine (HTx.out _).mono ?_
          rintro e w7 ⟨ta, tc, rfl, ts, _, tb⟩
          have tb : Below wx.drew.heap.size wx.drew w7 := tb
          have R7 : Hid (Below bs wx w7 ∧ Kp wx w7) := ⟨HBd.out.1.trans (tb.mono HZx.out), HBd.out.2.trans (Kp.of tb)⟩
          have HO7 : Hid (OwnB w7 bs (.slice va vl vc) lk) := ownsRow_later HOx.out tb
          have HT7 : Hid (SrcB w7 ta (M.pT x.two)) := ts
          have hz7 : Hid (bs ≤ w7.heap.size) := Nat.le_trans HZx.out tb.size
          have hlt7 : Hid (∀ k, (Value.slice va vl vc).ownBlock = some k → k < w7.heap.size) := ownB_lt HO7.out
          refine hK.out _ _ (HSV.out _ R7.out) (fun hHeld => ?_)
          clear hK K ts tb
          refine till_two 4 9 rfl rfl (by decide) (by decide) (by kernel_rfl) (fun K hK => ?h8C) (fun K hK => ?h8D)
          case h8C =>
            refine step_bys rfl _ _ rfl bs _ lk rfl HO7.out ta ml tc (M.pT x.two) rfl HPl.out HT7.out (by omega) hz7.out ?_
            intro v8 w8 o8 g8
            obtain ⟨gb8, gk8⟩ := ownB_grown HO7.out g8 hz7.out
            have R8 : Hid (Below bs wx w8 ∧ Kp wx w8) := ⟨R7.out.1.trans gb8, R7.out.2.trans gk8⟩
            have HO8 : Hid (OwnB w8 bs v8 (lk ++ M.pT x.two)) := o8
            have HG8 : Hid (w7.grownBy w8 (Value.slice va vl vc).ownBlock) := g8
            obtain ⟨qa, qn, qc, rfl⟩ := ownB_slice o8
            have hz8 : Hid (bs ≤ w8.heap.size) := Nat.le_trans hz7.out gb8.size
            refine hK.out _ _ (HSV.out _ R8.out) (fun hHeld => ?_)
            clear hK K o8 g8 gb8 gk8
            refine till_step 9 rfl (by decide) (by kernel_rfl) (fun K hK => ?_)
            go_simp
            have ta8 : Below w8.heap.size w8 (w8.alloc (.cells #[.int .u8 (m : Int)] 5)) := (Below.refl _ _).alloc (Nat.le_refl _) _
            have R5 : Hid (Below bs wx (w8.alloc (.cells #[.int .u8 (m : Int)] 5)) ∧ Kp wx (w8.alloc (.cells #[.int .u8 (m : Int)] 5))) := ⟨R8.out.1.trans (ta8.mono hz8.out), R8.out.2.trans (Kp.of ta8)⟩
            have HO5 : Hid (OwnB (w8.alloc (.cells #[.int .u8 (m : Int)] 5)) bs (.slice qa qn qc) (lk ++ M.pT x.two)) := ownsRow_later HO8.out ta8
            have HS5 : Hid (SrcB (w8.alloc (.cells #[.int .u8 (m : Int)] 5)) w8.heap.size [M.b1 (m : Int)]) := srcB_num w8 m hm256
            have hz5 : Hid (bs ≤ (w8.alloc (.cells #[.int .u8 (m : Int)] 5)).heap.size) := Nat.le_trans hz8.out ta8.size
            refine hK.out _ _ (HSV.out _ R5.out) (fun hHeld => ?_)
            clear hK K ta8
            refine till_step 10 rfl (by decide) (by kernel_rfl) (fun K hK => ?_)
            refine step_bys rfl _ _ rfl bs _ (lk ++ M.pT x.two) rfl HO5.out w8.heap.size 1 1 [M.b1 (m : Int)] rfl rfl HS5.out (by rw [List.length_append, HPl.out]; omega) hz5.out ?_
            intro v6 w6 o6 g6
            obtain ⟨gb6, gk6⟩ := ownB_grown HO5.out g6 hz5.out
            have R6 : Hid (Below bs wx w6 ∧ Kp wx w6) := ⟨R5.out.1.trans gb6, R5.out.2.trans gk6⟩
            have HO6 : Hid (OwnB w6 bs v6 ((lk ++ M.pT x.two) ++ [M.b1 (m : Int)])) := o6
            refine hK.out _ _ (HSV.out _ R6.out) (fun hHeld => ?_)
            clear hK K o6 g6 gb6 gk6
            refine till_last rfl (by kernel_rfl) (by kernel_rfl) (fun K hK => ?_) _
            go_simp
            refine hK.out _ _ ?_
            clear hK K
            obtain ⟨l4, hl4⟩ : ∃ l4, l4 = (([M.b1 (kd : Int)] ++ M.pT x.one) ++ M.pT x.two) ++ [M.b1 (m : Int)] := ⟨_, rfl⟩
            have HL4 : Hid (l4 = (([M.b1 (kd : Int)] ++ M.pT x.one) ++ M.pT x.two) ++ [M.b1 (m : Int)]) := hl4
            have hl45 : l4.length ≤ 600 := by have e1 := HL1.out; have e2 := HL2.out; rw [hl4]; simp [M.pT]; omega
            have o4 := HO6.out
            rw [Hlk.out, ← hl4] at o4
            have HO40 : Aside (OwnB w6 bs v6 (l4 ++ (x.chs.take 0).flatMap M.pC)) := by unfold Aside; simpa using o4
            have bX6 : Below bs X1 w6 := HX17.out.trans R6.out.1
            clear o4 hl4 HO6
            go_wp2_with fail
            go_loopg [6, 7] m (fun g v i wr => ∃ k : Nat, k + g = m ∧ i = .int .i64 k ∧ Aside (OwnB wr bs v (l4 ++ (x.chs.take k).flatMap M.pC)) ∧ Aside (∀ c ∈ x.chs.take k, M.okC c) ∧ Below bs X1 wr)
            case atStart => exact ⟨0, by omega, rfl, HO40, by unfold Aside; simp, bX6⟩
            case round =>
              obtain ⟨k, hk, rfl, HOk, HAll, hbX⟩ := hrel
              obtain ⟨va, vl, vc, hv⟩ := ownB_slice HOk.out
              subst hv
              obtain ⟨_, _, _, j3⟩ := HBx.out wr hbX
              have hzr : bs ≤ wr.heap.size := by have := hbX.size; rw [HX1s.out] at this; exact this
              by_cases hkm : k < m
              · have hki : (k : Int) < (m : Int) := by omega
                have hkn : k < x.chs.length := by rw [HLn.out]; exact hkm
                obtain ⟨ab, ao, rfl, hab, hc⟩ : ∃ ab ao, a = some ⟨ab, ao, none⟩ ∧ ab < wr.heap.size ∧ (wr.cell? ⟨ab, ao + k * 3, none⟩ = some (.int .i64 (x.chs.getD k (0, 0, 0)).1) ∧ wr.cell? ⟨ab, ao + k * 3 + 1, none⟩ = some (.int .i64 (x.chs.getD k (0, 0, 0)).2.1) ∧ wr.cell? ⟨ab, ao + k * 3 + 2, none⟩ = some (.int .i64 (x.chs.getD k (0, 0, 0)).2.2)) := by
                  rcases (HRc.out wr hbX).cases with ⟨h0, _⟩ | ⟨ab, ao, e, _, _, hB, hc⟩
                  · omega
                  · exact ⟨ab, ao, e, hB, hc k hkm⟩
                have hmem : x.chs.getD k (0, 0, 0) ∈ x.chs := getD_memA hkn
                have hst := fmA_take M.pC (0, 0, 0) x.chs k hkn
                have hrg := HRg.out _ hmem
                obtain ⟨c, hcc⟩ : ∃ c, c = x.chs.getD k (0, 0, 0) := ⟨_, rfl⟩
                rw [← hcc] at hc hst hrg hmem
                have hck : x.chs[k] = c := by rw [hcc]; simp [List.getD, hkn]
                obtain ⟨x0, x1, x2⟩ := c
                obtain ⟨ck, c1, c2⟩ := hc
                simp only at ck c1 c2
                obtain ⟨hi1, hi2⟩ := hrg
                have hi1 : M.inI x1 := hi1
                have hi2 : M.inI x2 := hi2
                unfold M.inI at hi1 hi2
                have HMem : Hid ((x0, x1, x2) ∈ x.chs) := hmem
                obtain ⟨q, hq⟩ : ∃ q, q = wr.heap.size := ⟨_, rfl⟩
                obtain ⟨X, hX⟩ : ∃ X, X = wr.alloc (.cells #[.int .i64 x0, .int .i64 x1, .int .i64 x2] 69) := ⟨_, rfl⟩
                have bX : Below wr.heap.size wr X := by rw [hX]; exact (Below.refl _ _).alloc (Nat.le_refl _) _
                have hX0 : X.heap[q]? = some (.cells #[.int .i64 x0, .int .i64 x1, .int .i64 x2] 69 (0, 0)) := by rw [hX, hq]; exact heap_alloc_new _ _
                have HXc : Hid (∀ V, Kp X V → V.cell? ⟨q, 0, none⟩ = some (.int .i64 x0) ∧ V.cell? ⟨q, 1, none⟩ = some (.int .i64 x1) ∧ V.cell? ⟨q, 2, none⟩ = some (.int .i64 x2)) := fun V hV => by
                  have blk := hV _ _ _ (by decide) (by decide) hX0
                  exact ⟨by rw [cell_of_row _ _ _ _ _ _ blk]; rfl, by rw [cell_of_row _ _ _ _ _ _ blk]; rfl, by rw [cell_of_row _ _ _ _ _ _ blk]; rfl⟩
                have bqX : Below bs wr X := bX.mono hzr
                have HX : Hid (X = wr.alloc (.cells #[.int .i64 x0, .int .i64 x1, .int .i64 x2] 69)) := hX
                have HQ : Aside (q = wr.heap.size) := hq
                have bZX : Below w.heap.size w X := HBw.out X (hbX.trans bqX)
                have HZX : Hid (Below w.heap.size w X) := bZX
                have HOX : Hid (OwnB X bs (.slice va vl vc) (l4 ++ (x.chs.take k).flatMap M.pC)) := ownsRow_later HOk.out bX
                obtain ⟨t0, t1, t2⟩ := HXc.out X (Kp.refl _)
                rw [hX] at t0 t1 t2
                have HHck : Hid (x.chs[k] = (x0, x1, x2)) := hck
                have hzX : bs ≤ X.heap.size := Nat.le_trans hzr bX.size
                clear hcc hmem hX hq bX hX0 hck bZX
                by_cases g0 : 0 ≤ x0 ∧ x0 ≤ 255
                case neg =>
                  have HBad : Hid (sB = ⟨#[]⟩ ∧ F = 3) := HBadA.out (fun h => g0 (by have := h.2.2.2.2 _ HMem.out; obtain ⟨z1, z2, _⟩ := this; simp only at z1 z2; omega))
                  have KW : Hid (∀ V, Calls Tryz.prog 64 #[.int .i64 x0, .int .i64 0, .int .i64 255] V fun e w' => e = .returned (.bool false) ∧ w' = V) := fun V => within_no x0 0 255 V (by omega)
                  clear g0
                  go_wp2_with (go_at_call 64; refine (KW.out _).mono ?_; rintro e w2 ⟨rfl, rfl⟩)
                  rw [← HX.out]
                  go_ret2
                  exact ⟨by rw [HBad.out.1, HBad.out.2]; rfl, HZX.out⟩
                have KW0 : Hid (∀ V, Calls Tryz.prog 64 #[.int .i64 x0, .int .i64 0, .int .i64 255] V fun e w' => e = .returned (.bool true) ∧ w' = V) := fun V => within_yes x0 0 255 V g0.1 g0.2
                by_cases g1 : -1 ≤ x1 ∧ x1 ≤ 65534
                case neg =>
                  have HBad : Hid (sB = ⟨#[]⟩ ∧ F = 3) := HBadA.out (fun h => g1 (by have := h.2.2.2.2 _ HMem.out; obtain ⟨_, _, z1, z2, _⟩ := this; simp only at z1 z2; omega))
                  have KW : Hid (∀ V, Calls Tryz.prog 64 #[.int .i64 x1, .int .i64 (-1), .int .i64 65534] V fun e w' => e = .returned (.bool false) ∧ w' = V) := fun V => within_no x1 (-1) 65534 V (by omega)
                  clear g0 g1
                  go_wp2_with fail
                  refine (KW0.out _).mono ?_
                  rintro e w2 ⟨rfl, rfl⟩
                  go_wp2_with fail
                  refine (KW.out _).mono ?_
                  rintro e w2 ⟨rfl, rfl⟩
                  go_wp2
                  rw [← HX.out]
                  go_ret2
                  exact ⟨by rw [HBad.out.1, HBad.out.2]; rfl, HZX.out⟩
                have KW1 : Hid (∀ V, Calls Tryz.prog 64 #[.int .i64 x1, .int .i64 (-1), .int .i64 65534] V fun e w' => e = .returned (.bool true) ∧ w' = V) := fun V => within_yes x1 (-1) 65534 V g1.1 g1.2
                by_cases g2 : -1 ≤ x2 ∧ x2 ≤ 65534
                case neg =>
                  have HBad : Hid (sB = ⟨#[]⟩ ∧ F = 3) := HBadA.out (fun h => g2 (by have := h.2.2.2.2 _ HMem.out; obtain ⟨_, _, _, _, z1, z2⟩ := this; simp only at z1 z2; omega))
                  have KW : Hid (∀ V, Calls Tryz.prog 64 #[.int .i64 x2, .int .i64 (-1), .int .i64 65534] V fun e w' => e = .returned (.bool false) ∧ w' = V) := fun V => within_no x2 (-1) 65534 V (by omega)
                  clear g0 g1 g2
                  go_wp2_with fail
                  refine (KW0.out _).mono ?_
                  rintro e w2 ⟨rfl, rfl⟩
                  go_wp2_with fail
                  refine (KW1.out _).mono ?_
                  rintro e w2 ⟨rfl, rfl⟩
                  go_wp2_with fail
                  refine (KW.out _).mono ?_
                  rintro e w2 ⟨rfl, rfl⟩
                  go_wp2
                  rw [← HX.out]
                  go_ret2
                  exact ⟨by rw [HBad.out.1, HBad.out.2]; rfl, HZX.out⟩
                have KW2 : Hid (∀ V, Calls Tryz.prog 64 #[.int .i64 x2, .int .i64 (-1), .int .i64 65534] V fun e w' => e = .returned (.bool true) ∧ w' = V) := fun V => within_yes x2 (-1) 65534 V g2.1 g2.2
                obtain ⟨e0, rfl⟩ : ∃ e0 : Nat, x0 = (e0 : Int) := ⟨x0.toNat, by omega⟩
                obtain ⟨n1, hn1e⟩ : ∃ n1 : Nat, x1 + 1 = (n1 : Int) := ⟨(x1 + 1).toNat, by omega⟩
                obtain ⟨n2, hn2e⟩ : ∃ n2 : Nat, x2 + 1 = (n2 : Int) := ⟨(x2 + 1).toNat, by omega⟩
                have he0 : e0 < 256 := by omega
                have hn1 : n1 < 65536 := by omega
                have hn2 : n2 < 65536 := by omega
                obtain ⟨li, hli⟩ : ∃ li, li = l4 ++ (x.chs.take k).flatMap M.pC := ⟨_, rfl⟩
                have hli5 : li.length ≤ 5000 := by
                  have h5 : ∀ l : List M.Chg, (l.flatMap M.pC).length = 5 * l.length := by
                    intro l
                    induction l with
                    | nil => rfl
                    | cons c t ih => rw [List.flatMap_cons, List.length_append, ih]; simp [M.pC, M.b2]; omega
                  rw [hli, List.length_append, h5, List.length_take]
                  omega
                rw [← hli] at HOX
                have HSt : Hid ((((li ++ [M.b1 (e0 : Int)]) ++ M.b2 (n1 : Int)) ++ M.b2 (n2 : Int)) = l4 ++ (x.chs.take (k + 1)).flatMap M.pC) := by
                  unfold Hid
                  rw [hst, hli]
                  unfold M.pC
                  simp only
                  rw [hn1e, hn2e]
                  simp
                have HOkn : Aside (∀ c ∈ x.chs.take (k + 1), M.okC c) := by
                  intro c hc
                  rw [List.take_succ_eq_append_getElem hkn] at hc
                  rcases List.mem_append.1 hc with hc | hc
                  · exact HAll.out c hc
                  · rw [List.mem_singleton.1 hc, HHck.out]
                    refine ⟨?_, ?_, ?_, ?_, ?_, ?_⟩ <;> (simp only; omega)
                clear hst hli g0 g1 g2
                have hk2 : wr.heap.size ≤ X.heap.size := by rw [HX.out]; simp
                go_wp2_with fail
                refine (KW0.out _).mono ?_
                rintro e w2 ⟨rfl, rfl⟩
                go_wp2_with fail
                refine (KW1.out _).mono ?_
                rintro e w2 ⟨rfl, rfl⟩
                go_wp2_with fail
                refine (KW2.out _).mono ?_
                rintro e w2 ⟨rfl, rfl⟩
                clear t0 t1 t2 KW0 KW1 KW2 ck c1 c2
                obtain ⟨wx, hwx⟩ : ∃ wx, wx = X := ⟨_, rfl⟩
                have HSV : Hid (∀ V, (Below bs wx V ∧ Kp wx V) → V.cell? ⟨q, 0, none⟩ = some (.int .i64 (e0 : Int)) ∧ V.cell? ⟨q, 1, none⟩ = some (.int .i64 x1) ∧ V.cell? ⟨q, 2, none⟩ = some (.int .i64 x2)) := fun V hV => HXc.out V (by rw [← hwx]; exact hV.2)
                have w8u : IntKind.u8.wrap (e0 : Int) = (e0 : Int) := by rw [IntKind.wrap_u8]; omega
                have wn1 : IntKind.i64.wrap (n1 : Int) = (n1 : Int) := by rw [IntKind.wrap_i64]; omega
                have wn2 : IntKind.i64.wrap (n2 : Int) = (n2 : Int) := by rw [IntKind.wrap_i64]; omega
                have HXw : Hid (wx = wr.alloc (.cells #[.int .i64 (e0 : Int), .int .i64 x1, .int .i64 x2] 69)) := by rw [hwx]; exact HX.out
                subst hwx
                have HBd : Hid (Below bs wx wx.drew ∧ Kp wx wx.drew) := ⟨(Below.refl _ _).drew, Kp.of ((Below.refl _ _).drew)⟩
                have pbb : Below wx.heap.size wx (wx.alloc (.cells #[.int .u8 (e0 : Int)] 5)).drew := ((Below.refl _ _).alloc (Nat.le_refl _) _).drew
                have pb9 : Hid (Below bs wx (wx.alloc (.cells #[.int .u8 (e0 : Int)] 5)).drew ∧ Kp wx (wx.alloc (.cells #[.int .u8 (e0 : Int)] 5)).drew) := ⟨pbb.mono hzX, Kp.of pbb⟩
                have HO9 : Hid (OwnB (wx.alloc (.cells #[.int .u8 (e0 : Int)] 5)).drew bs (.slice va vl vc) li) := ownsRow_later HOX.out pbb
                have HS9 : Hid (SrcB (wx.alloc (.cells #[.int .u8 (e0 : Int)] 5)).drew wx.heap.size [M.b1 (e0 : Int)]) := (srcB_num wx e0 he0).later ((Below.refl _ _).drew)
                have HZ9 : Hid (bs ≤ (wx.alloc (.cells #[.int .u8 (e0 : Int)] 5)).drew.heap.size) := Nat.le_trans hzX pbb.size
                clear pbb
                go_wp2_with fail
                rw [← HXw.out, ← HQ.out]
                refine wp_region_till 16 (fun V => V.cell? ⟨q, 0, none⟩ = some (.int .i64 (e0 : Int)) ∧ V.cell? ⟨q, 1, none⟩ = some (.int .i64 x1) ∧ V.cell? ⟨q, 2, none⟩ = some (.int .i64 x2)) (by kernel_rfl) (HSV.out _ HBd.out) (fun hHeld => ?_)
                refine till_go 0 (v := .slice va vl vc) rfl (by decide) (by kernel_rfl) (by kernel_rfl) (by kernel_rfl) (fun _ _ _ h => h) (Or.inl ⟨by rfl, fun V _ => (by go_simp)⟩) hHeld ?_
                try simp only [Act.put]
                refine till_go 1 (v := .pointer (some ⟨q, 0, none⟩)) rfl (by decide) (by kernel_rfl) (by kernel_rfl) (by kernel_rfl) (fun _ _ _ h => h) (Or.inl ⟨by rfl, fun V _ => (by go_simp)⟩) hHeld ?_
                try simp only [Act.put]
                refine till_take 2 (v := .int .i64 (e0 : Int)) rfl (by decide) (by kernel_rfl) (by kernel_rfl) (by kernel_rfl) (by kernel_rfl) (by kernel_rfl) (fun _ _ _ h => h) (Or.inl ⟨by rfl, fun V hV => (by obtain ⟨v0, v1, v2⟩ := hV; go_simp)⟩) hHeld ?_
                try simp only [Act.put]
                refine till_go 3 (v := .int .u8 (e0 : Int)) rfl (by decide) (by kernel_rfl) (by kernel_rfl) (by kernel_rfl) (fun _ _ _ h => h) (Or.inl ⟨by rfl, fun V _ => (by go_simp)⟩) hHeld ?_
                try simp only [Act.put]
                refine till_go 6 (v := .pointer (some ⟨q, 1, none⟩)) rfl (by decide) (by kernel_rfl) (by kernel_rfl) (by kernel_rfl) (fun _ _ _ h => h) (Or.inl ⟨by rfl, fun V _ => (by go_simp)⟩) hHeld ?_
                try simp only [Act.put]
                refine till_take 7 (v := .int .i64 x1) rfl (by decide) (by kernel_rfl) (by kernel_rfl) (by kernel_rfl) (by kernel_rfl) (by kernel_rfl) (fun _ _ _ h => h) (Or.inl ⟨by rfl, fun V hV => (by obtain ⟨v0, v1, v2⟩ := hV; go_simp)⟩) hHeld ?_
                try simp only [Act.put]
                refine till_go 8 (v := .int .i64 (n1 : Int)) rfl (by decide) (by kernel_rfl) (by kernel_rfl) (by kernel_rfl) (fun _ _ _ h => h) (Or.inl ⟨by rfl, fun V _ => (by go_simp)⟩) hHeld ?_
                try simp only [Act.put]
                refine till_go 11 (v := .pointer (some ⟨q, 2, none⟩)) rfl (by decide) (by kernel_rfl) (by kernel_rfl) (by kernel_rfl) (fun _ _ _ h => h) (Or.inl ⟨by rfl, fun V _ => (by go_simp)⟩) hHeld ?_
                try simp only [Act.put]
                refine till_take 12 (v := .int .i64 x2) rfl (by decide) (by kernel_rfl) (by kernel_rfl) (by kernel_rfl) (by kernel_rfl) (by kernel_rfl) (fun _ _ _ h => h) (Or.inl ⟨by rfl, fun V hV => (by obtain ⟨v0, v1, v2⟩ := hV; go_simp)⟩) hHeld ?_
                try simp only [Act.put]
                refine till_go 13 (v := .int .i64 (n2 : Int)) rfl (by decide) (by kernel_rfl) (by kernel_rfl) (by kernel_rfl) (fun _ _ _ h => h) (Or.inl ⟨by rfl, fun V _ => (by go_simp)⟩) hHeld ?_
                try simp only [Act.put]
                refine till_step 4 rfl (by decide) (by kernel_rfl) (fun K hK => ?_)
                go_simp
                refine hK.out _ _ (HSV.out _ pb9.out) (fun hHeld => ?_)
                clear hK K
                refine till_step 5 rfl (by decide) (by kernel_rfl) (fun K hK => ?_)
                refine step_bys rfl _ _ rfl bs _ li rfl HO9.out wx.heap.size 1 1 [M.b1 (e0 : Int)] rfl rfl HS9.out (by simp; omega) HZ9.out ?_
                intro va5 wa5 o8 g8
                obtain ⟨gb8, gk8⟩ := ownB_grown HO9.out g8 HZ9.out
                have Rwa5 : Hid (Below bs wx wa5 ∧ Kp wx wa5) := ⟨pb9.out.1.trans gb8, pb9.out.2.trans gk8⟩
                have HOwa5 : Hid (OwnB wa5 bs va5 (li ++ [M.b1 (e0 : Int)])) := o8
                obtain ⟨va5a, va5n, va5c, rfl⟩ := ownB_slice o8
                have hzwa5 : Hid (bs ≤ wa5.heap.size) := Nat.le_trans HZ9.out gb8.size
                refine hK.out _ _ (HSV.out _ Rwa5.out) (fun hHeld => ?_)
                clear hK K o8 g8 gb8 gk8
                refine till_step 9 rfl (by decide) (by kernel_rfl) (fun K hK => ?_)
                go_simp
                refine (twoB_any n1 wa5 hn1).mono ?_
                rintro e wa6 ⟨ta6, tc6, rfl, ts, _, tb⟩
                have Rwa6 : Hid (Below bs wx wa6 ∧ Kp wx wa6) := ⟨Rwa5.out.1.trans (tb.mono hzwa5.out), Rwa5.out.2.trans (Kp.of tb)⟩
                have HOwa6 : Hid (OwnB wa6 bs (.slice va5a va5n va5c) (li ++ [M.b1 (e0 : Int)])) := ownsRow_later HOwa5.out tb
                have HSwa6 : Hid (SrcB wa6 ta6 (M.b2 (n1 : Int))) := ts
                have hzwa6 : Hid (bs ≤ wa6.heap.size) := Nat.le_trans hzwa5.out tb.size
                refine hK.out _ _ (HSV.out _ Rwa6.out) (fun hHeld => ?_)
                clear hK K ts tb
                refine till_step 10 rfl (by decide) (by kernel_rfl) (fun K hK => ?_)
                refine step_bys rfl _ _ rfl bs _ (li ++ [M.b1 (e0 : Int)]) rfl HOwa6.out ta6 2 tc6 (M.b2 (n1 : Int)) rfl rfl HSwa6.out (by simp; omega) hzwa6.out ?_
                intro va7 wa7 o8 g8
                obtain ⟨gb8, gk8⟩ := ownB_grown HOwa6.out g8 hzwa6.out
                have Rwa7 : Hid (Below bs wx wa7 ∧ Kp wx wa7) := ⟨Rwa6.out.1.trans gb8, Rwa6.out.2.trans gk8⟩
                have HOwa7 : Hid (OwnB wa7 bs va7 ((li ++ [M.b1 (e0 : Int)]) ++ (M.b2 (n1 : Int)))) := o8
                obtain ⟨va7a, va7n, va7c, rfl⟩ := ownB_slice o8
                have hzwa7 : Hid (bs ≤ wa7.heap.size) := Nat.le_trans hzwa6.out gb8.size
                refine hK.out _ _ (HSV.out _ Rwa7.out) (fun hHeld => ?_)
                clear hK K o8 g8 gb8 gk8
                refine till_step 14 rfl (by decide) (by kernel_rfl) (fun K hK => ?_)
                go_simp
                refine (twoB_any n2 wa7 hn2).mono ?_
                rintro e wa8 ⟨ta8, tc8, rfl, ts, _, tb⟩
                have Rwa8 : Hid (Below bs wx wa8 ∧ Kp wx wa8) := ⟨Rwa7.out.1.trans (tb.mono hzwa7.out), Rwa7.out.2.trans (Kp.of tb)⟩
                have HOwa8 : Hid (OwnB wa8 bs (.slice va7a va7n va7c) ((li ++ [M.b1 (e0 : Int)]) ++ M.b2 (n1 : Int))) := ownsRow_later HOwa7.out tb
                have HSwa8 : Hid (SrcB wa8 ta8 (M.b2 (n2 : Int))) := ts
                have hzwa8 : Hid (bs ≤ wa8.heap.size) := Nat.le_trans hzwa7.out tb.size
                refine hK.out _ _ (HSV.out _ Rwa8.out) (fun hHeld => ?_)
                clear hK K ts tb
                refine till_step 15 rfl (by decide) (by kernel_rfl) (fun K hK => ?_)
                refine step_bys rfl _ _ rfl bs _ ((li ++ [M.b1 (e0 : Int)]) ++ M.b2 (n1 : Int)) rfl HOwa8.out ta8 2 tc8 (M.b2 (n2 : Int)) rfl rfl HSwa8.out (by simp [M.b2]; omega) hzwa8.out ?_
                intro v6 w6 o6 g6
                obtain ⟨gb6, gk6⟩ := ownB_grown HOwa8.out g6 hzwa8.out
                have R6 : Hid (Below bs wx w6 ∧ Kp wx w6) := ⟨Rwa8.out.1.trans gb6, Rwa8.out.2.trans gk6⟩
                rw [HSt.out] at o6
                have HO6 : Aside (OwnB w6 bs v6 (l4 ++ (x.chs.take (k + 1)).flatMap M.pC)) := o6
                refine hK.out _ _ (HSV.out _ R6.out) (fun hHeld => ?_)
                clear hK K o6 g6 gb6 gk6
                refine till_last rfl (by kernel_rfl) (by kernel_rfl) (fun K hK => ?_) _
                go_simp
                refine hK.out _ _ ?_
                clear hK K
                go_wp2
                go_roundg (m - k - 1)
                case measure => omega
                case rel => exact ⟨k + 1, by omega, by go_num, HO6, HOkn, hbX.trans (bqX.trans R6.out.1)⟩
              · obtain rfl : k = m := by omega
                have hkk2 : decide ((k : Int) < (k : Int)) = false := by simp
                have e1 : x.chs.take k = x.chs := List.take_of_length_le (by rw [HLn.out]; exact Nat.le_refl _)
                rw [e1] at HOk HAll
                have hgood := HGoodA.out HAll.out
                have hfin : l4 ++ x.chs.flatMap M.pC = M.pA x := by
                  rw [HL4.out]
                  unfold M.pA M.pL
                  rw [HLn.out, ← HKd.out]
                  simp
                have ho := HOk.out
                rw [hfin] at ho
                have hcv := ownB_conv ho
                rw [← hgood.1] at hcv
                have hF := hgood.2
                have BZ := HBw.out wr hbX
                subst hF
                clear e1 hfin ho hgood
                go_wp2
                go_ret2
                exact ⟨rfl, BZ⟩
          case h8D =>
            go_simp
            have ta7 : Below w7.heap.size w7 (w7.alloc (.cells #[.int .u8 (m : Int)] 5)) := (Below.refl _ _).alloc (Nat.le_refl _) _
            have R5 : Hid (Below bs wx (w7.alloc (.cells #[.int .u8 (m : Int)] 5)) ∧ Kp wx (w7.alloc (.cells #[.int .u8 (m : Int)] 5))) := ⟨R7.out.1.trans (ta7.mono hz7.out), R7.out.2.trans (Kp.of ta7)⟩
            have HO5 : Hid (OwnB (w7.alloc (.cells #[.int .u8 (m : Int)] 5)) bs (.slice va vl vc) lk) := ownsRow_later HO7.out ta7
            have HT5 : Hid (SrcB (w7.alloc (.cells #[.int .u8 (m : Int)] 5)) ta (M.pT x.two)) := HT7.out.later ta7
            have HS5 : Hid (SrcB (w7.alloc (.cells #[.int .u8 (m : Int)] 5)) w7.heap.size [M.b1 (m : Int)]) := srcB_num w7 m hm256
            have hz5 : Hid (bs ≤ (w7.alloc (.cells #[.int .u8 (m : Int)] 5)).heap.size) := Nat.le_trans hz7.out ta7.size
            refine hK.out _ _ (HSV.out _ R5.out) (fun hHeld => ?_)
            clear hK K ta7
            refine till_step 4 rfl (by decide) (by kernel_rfl) (fun K hK => ?_)
            refine step_bys rfl _ _ rfl bs _ lk rfl HO5.out ta ml tc (M.pT x.two) rfl HPl.out HT5.out (by omega) hz5.out ?_
            intro v8 w8 o8 g8
            obtain ⟨gb8, gk8⟩ := ownB_grown HO5.out g8 hz5.out
            have R8 : Hid (Below bs wx w8 ∧ Kp wx w8) := ⟨R5.out.1.trans gb8, R5.out.2.trans gk8⟩
            have HO8 : Hid (OwnB w8 bs v8 (lk ++ M.pT x.two)) := o8
            have HG8 : Hid ((w7.alloc (.cells #[.int .u8 (m : Int)] 5)).grownBy w8 (Value.slice va vl vc).ownBlock) := g8
            obtain ⟨qa, qn, qc, rfl⟩ := ownB_slice o8
            have hz8 : Hid (bs ≤ w8.heap.size) := Nat.le_trans hz5.out gb8.size
            refine hK.out _ _ (HSV.out _ R8.out) (fun hHeld => ?_)
            clear hK K o8 g8 gb8 gk8
            have HS8 : Hid (SrcB w8 w7.heap.size [M.b1 (m : Int)]) := HS5.out.grown HG8.out (fun k e => by have := hlt7.out k e; omega)
            refine till_step 10 rfl (by decide) (by kernel_rfl) (fun K hK => ?_)
            refine step_bys rfl _ _ rfl bs _ (lk ++ M.pT x.two) rfl HO8.out w7.heap.size 1 1 [M.b1 (m : Int)] rfl rfl HS8.out (by rw [List.length_append, HPl.out]; omega) hz8.out ?_
            intro v6 w6 o6 g6
            obtain ⟨gb6, gk6⟩ := ownB_grown HO8.out g6 hz8.out
            have R6 : Hid (Below bs wx w6 ∧ Kp wx w6) := ⟨R8.out.1.trans gb6, R8.out.2.trans gk6⟩
            have HO6 : Hid (OwnB w6 bs v6 ((lk ++ M.pT x.two) ++ [M.b1 (m : Int)])) := o6
            refine hK.out _ _ (HSV.out _ R6.out) (fun hHeld => ?_)
            clear hK K o6 g6 gb6 gk6
            refine till_last rfl (by kernel_rfl) (by kernel_rfl) (fun K hK => ?_) _
            go_simp
            refine hK.out _ _ ?_
            clear hK K
            obtain ⟨l4, hl4⟩ : ∃ l4, l4 = (([M.b1 (kd : Int)] ++ M.pT x.one) ++ M.pT x.two) ++ [M.b1 (m : Int)] := ⟨_, rfl⟩
            have HL4 : Hid (l4 = (([M.b1 (kd : Int)] ++ M.pT x.one) ++ M.pT x.two) ++ [M.b1 (m : Int)]) := hl4
            have hl45 : l4.length ≤ 600 := by have e1 := HL1.out; have e2 := HL2.out; rw [hl4]; simp [M.pT]; omega
            have o4 := HO6.out
            rw [Hlk.out, ← hl4] at o4
            have HO40 : Aside (OwnB w6 bs v6 (l4 ++ (x.chs.take 0).flatMap M.pC)) := by unfold Aside; simpa using o4
            have bX6 : Below bs X1 w6 := HX17.out.trans R6.out.1
            clear o4 hl4 HO6
            go_wp2_with fail
            go_loopg [6, 7] m (fun g v i wr => ∃ k : Nat, k + g = m ∧ i = .int .i64 k ∧ Aside (OwnB wr bs v (l4 ++ (x.chs.take k).flatMap M.pC)) ∧ Aside (∀ c ∈ x.chs.take k, M.okC c) ∧ Below bs X1 wr)
            case atStart => exact ⟨0, by omega, rfl, HO40, by unfold Aside; simp, bX6⟩
            case round =>
              obtain ⟨k, hk, rfl, HOk, HAll, hbX⟩ := hrel
              obtain ⟨va, vl, vc, hv⟩ := ownB_slice HOk.out
              subst hv
              obtain ⟨_, _, _, j3⟩ := HBx.out wr hbX
              have hzr : bs ≤ wr.heap.size := by have := hbX.size; rw [HX1s.out] at this; exact this
              by_cases hkm : k < m
              · have hki : (k : Int) < (m : Int) := by omega
                have hkn : k < x.chs.length := by rw [HLn.out]; exact hkm
                obtain ⟨ab, ao, rfl, hab, hc⟩ : ∃ ab ao, a = some ⟨ab, ao, none⟩ ∧ ab < wr.heap.size ∧ (wr.cell? ⟨ab, ao + k * 3, none⟩ = some (.int .i64 (x.chs.getD k (0, 0, 0)).1) ∧ wr.cell? ⟨ab, ao + k * 3 + 1, none⟩ = some (.int .i64 (x.chs.getD k (0, 0, 0)).2.1) ∧ wr.cell? ⟨ab, ao + k * 3 + 2, none⟩ = some (.int .i64 (x.chs.getD k (0, 0, 0)).2.2)) := by
                  rcases (HRc.out wr hbX).cases with ⟨h0, _⟩ | ⟨ab, ao, e, _, _, hB, hc⟩
                  · omega
                  · exact ⟨ab, ao, e, hB, hc k hkm⟩
                have hmem : x.chs.getD k (0, 0, 0) ∈ x.chs := getD_memA hkn
                have hst := fmA_take M.pC (0, 0, 0) x.chs k hkn
                have hrg := HRg.out _ hmem
                obtain ⟨c, hcc⟩ : ∃ c, c = x.chs.getD k (0, 0, 0) := ⟨_, rfl⟩
                rw [← hcc] at hc hst hrg hmem
                have hck : x.chs[k] = c := by rw [hcc]; simp [List.getD, hkn]
                obtain ⟨x0, x1, x2⟩ := c
                obtain ⟨ck, c1, c2⟩ := hc
                simp only at ck c1 c2
                obtain ⟨hi1, hi2⟩ := hrg
                have hi1 : M.inI x1 := hi1
                have hi2 : M.inI x2 := hi2
                unfold M.inI at hi1 hi2
                have HMem : Hid ((x0, x1, x2) ∈ x.chs) := hmem
                obtain ⟨q, hq⟩ : ∃ q, q = wr.heap.size := ⟨_, rfl⟩
                obtain ⟨X, hX⟩ : ∃ X, X = wr.alloc (.cells #[.int .i64 x0, .int .i64 x1, .int .i64 x2] 69) := ⟨_, rfl⟩
                have bX : Below wr.heap.size wr X := by rw [hX]; exact (Below.refl _ _).alloc (Nat.le_refl _) _
                have hX0 : X.heap[q]? = some (.cells #[.int .i64 x0, .int .i64 x1, .int .i64 x2] 69 (0, 0)) := by rw [hX, hq]; exact heap_alloc_new _ _
                have HXc : Hid (∀ V, Kp X V → V.cell? ⟨q, 0, none⟩ = some (.int .i64 x0) ∧ V.cell? ⟨q, 1, none⟩ = some (.int .i64 x1) ∧ V.cell? ⟨q, 2, none⟩ = some (.int .i64 x2)) := fun V hV => by
                  have blk := hV _ _ _ (by decide) (by decide) hX0
                  exact ⟨by rw [cell_of_row _ _ _ _ _ _ blk]; rfl, by rw [cell_of_row _ _ _ _ _ _ blk]; rfl, by rw [cell_of_row _ _ _ _ _ _ blk]; rfl⟩
                have bqX : Below bs wr X := bX.mono hzr
                have HX : Hid (X = wr.alloc (.cells #[.int .i64 x0, .int .i64 x1, .int .i64 x2] 69)) := hX
                have HQ : Aside (q = wr.heap.size) := hq
                have bZX : Below w.heap.size w X := HBw.out X (hbX.trans bqX)
                have HZX : Hid (Below w.heap.size w X) := bZX
                have HOX : Hid (OwnB X bs (.slice va vl vc) (l4 ++ (x.chs.take k).flatMap M.pC)) := ownsRow_later HOk.out bX
                obtain ⟨t0, t1, t2⟩ := HXc.out X (Kp.refl _)
                rw [hX] at t0 t1 t2
                have HHck : Hid (x.chs[k] = (x0, x1, x2)) := hck
                have hzX : bs ≤ X.heap.size := Nat.le_trans hzr bX.size
                clear hcc hmem hX hq bX hX0 hck bZX
                by_cases g0 : 0 ≤ x0 ∧ x0 ≤ 255
                case neg =>
                  have HBad : Hid (sB = ⟨#[]⟩ ∧ F = 3) := HBadA.out (fun h => g0 (by have := h.2.2.2.2 _ HMem.out; obtain ⟨z1, z2, _⟩ := this; simp only at z1 z2; omega))
                  have KW : Hid (∀ V, Calls Tryz.prog 64 #[.int .i64 x0, .int .i64 0, .int .i64 255] V fun e w' => e = .returned (.bool false) ∧ w' = V) := fun V => within_no x0 0 255 V (by omega)
                  clear g0
                  go_wp2_with (go_at_call 64; refine (KW.out _).mono ?_; rintro e w2 ⟨rfl, rfl⟩)
                  rw [← HX.out]
                  go_ret2
                  exact ⟨by rw [HBad.out.1, HBad.out.2]; rfl, HZX.out⟩
                have KW0 : Hid (∀ V, Calls Tryz.prog 64 #[.int .i64 x0, .int .i64 0, .int .i64 255] V fun e w' => e = .returned (.bool true) ∧ w' = V) := fun V => within_yes x0 0 255 V g0.1 g0.2
                by_cases g1 : -1 ≤ x1 ∧ x1 ≤ 65534
                case neg =>
                  have HBad : Hid (sB = ⟨#[]⟩ ∧ F = 3) := HBadA.out (fun h => g1 (by have := h.2.2.2.2 _ HMem.out; obtain ⟨_, _, z1, z2, _⟩ := this; simp only at z1 z2; omega))
                  have KW : Hid (∀ V, Calls Tryz.prog 64 #[.int .i64 x1, .int .i64 (-1), .int .i64 65534] V fun e w' => e = .returned (.bool false) ∧ w' = V) := fun V => within_no x1 (-1) 65534 V (by omega)
                  clear g0 g1
                  go_wp2_with fail
                  refine (KW0.out _).mono ?_
                  rintro e w2 ⟨rfl, rfl⟩
                  go_wp2_with fail
                  refine (KW.out _).mono ?_
                  rintro e w2 ⟨rfl, rfl⟩
                  go_wp2
                  rw [← HX.out]
                  go_ret2
                  exact ⟨by rw [HBad.out.1, HBad.out.2]; rfl, HZX.out⟩
                have KW1 : Hid (∀ V, Calls Tryz.prog 64 #[.int .i64 x1, .int .i64 (-1), .int .i64 65534] V fun e w' => e = .returned (.bool true) ∧ w' = V) := fun V => within_yes x1 (-1) 65534 V g1.1 g1.2
                by_cases g2 : -1 ≤ x2 ∧ x2 ≤ 65534
                case neg =>
                  have HBad : Hid (sB = ⟨#[]⟩ ∧ F = 3) := HBadA.out (fun h => g2 (by have := h.2.2.2.2 _ HMem.out; obtain ⟨_, _, _, _, z1, z2⟩ := this; simp only at z1 z2; omega))
                  have KW : Hid (∀ V, Calls Tryz.prog 64 #[.int .i64 x2, .int .i64 (-1), .int .i64 65534] V fun e w' => e = .returned (.bool false) ∧ w' = V) := fun V => within_no x2 (-1) 65534 V (by omega)
                  clear g0 g1 g2
                  go_wp2_with fail
                  refine (KW0.out _).mono ?_
                  rintro e w2 ⟨rfl, rfl⟩
                  go_wp2_with fail
                  refine (KW1.out _).mono ?_
                  rintro e w2 ⟨rfl, rfl⟩
                  go_wp2_with fail
                  refine (KW.out _).mono ?_
                  rintro e w2 ⟨rfl, rfl⟩
                  go_wp2
                  rw [← HX.out]
                  go_ret2
                  exact ⟨by rw [HBad.out.1, HBad.out.2]; rfl, HZX.out⟩
                have KW2 : Hid (∀ V, Calls Tryz.prog 64 #[.int .i64 x2, .int .i64 (-1), .int .i64 65534] V fun e w' => e = .returned (.bool true) ∧ w' = V) := fun V => within_yes x2 (-1) 65534 V g2.1 g2.2
                obtain ⟨e0, rfl⟩ : ∃ e0 : Nat, x0 = (e0 : Int) := ⟨x0.toNat, by omega⟩
                obtain ⟨n1, hn1e⟩ : ∃ n1 : Nat, x1 + 1 = (n1 : Int) := ⟨(x1 + 1).toNat, by omega⟩
                obtain ⟨n2, hn2e⟩ : ∃ n2 : Nat, x2 + 1 = (n2 : Int) := ⟨(x2 + 1).toNat, by omega⟩
                have he0 : e0 < 256 := by omega
                have hn1 : n1 < 65536 := by omega
                have hn2 : n2 < 65536 := by omega
                obtain ⟨li, hli⟩ : ∃ li, li = l4 ++ (x.chs.take k).flatMap M.pC := ⟨_, rfl⟩
                have hli5 : li.length ≤ 5000 := by
                  have h5 : ∀ l : List M.Chg, (l.flatMap M.pC).length = 5 * l.length := by
                    intro l
                    induction l with
                    | nil => rfl
                    | cons c t ih => rw [List.flatMap_cons, List.length_append, ih]; simp [M.pC, M.b2]; omega
                  rw [hli, List.length_append, h5, List.length_take]
                  omega
                rw [← hli] at HOX
                have HSt : Hid ((((li ++ [M.b1 (e0 : Int)]) ++ M.b2 (n1 : Int)) ++ M.b2 (n2 : Int)) = l4 ++ (x.chs.take (k + 1)).flatMap M.pC) := by
                  unfold Hid
                  rw [hst, hli]
                  unfold M.pC
                  simp only
                  rw [hn1e, hn2e]
                  simp
                have HOkn : Aside (∀ c ∈ x.chs.take (k + 1), M.okC c) := by
                  intro c hc
                  rw [List.take_succ_eq_append_getElem hkn] at hc
                  rcases List.mem_append.1 hc with hc | hc
                  · exact HAll.out c hc
                  · rw [List.mem_singleton.1 hc, HHck.out]
                    refine ⟨?_, ?_, ?_, ?_, ?_, ?_⟩ <;> (simp only; omega)
                clear hst hli g0 g1 g2
                have hk2 : wr.heap.size ≤ X.heap.size := by rw [HX.out]; simp
                go_wp2_with fail
                refine (KW0.out _).mono ?_
                rintro e w2 ⟨rfl, rfl⟩
                go_wp2_with fail
                refine (KW1.out _).mono ?_
                rintro e w2 ⟨rfl, rfl⟩
                go_wp2_with fail
                refine (KW2.out _).mono ?_
                rintro e w2 ⟨rfl, rfl⟩
                clear t0 t1 t2 KW0 KW1 KW2 ck c1 c2
                obtain ⟨wx, hwx⟩ : ∃ wx, wx = X := ⟨_, rfl⟩
                have HSV : Hid (∀ V, (Below bs wx V ∧ Kp wx V) → V.cell? ⟨q, 0, none⟩ = some (.int .i64 (e0 : Int)) ∧ V.cell? ⟨q, 1, none⟩ = some (.int .i64 x1) ∧ V.cell? ⟨q, 2, none⟩ = some (.int .i64 x2)) := fun V hV => HXc.out V (by rw [← hwx]; exact hV.2)
                have w8u : IntKind.u8.wrap (e0 : Int) = (e0 : Int) := by rw [IntKind.wrap_u8]; omega
                have wn1 : IntKind.i64.wrap (n1 : Int) = (n1 : Int) := by rw [IntKind.wrap_i64]; omega
                have wn2 : IntKind.i64.wrap (n2 : Int) = (n2 : Int) := by rw [IntKind.wrap_i64]; omega
                have HXw : Hid (wx = wr.alloc (.cells #[.int .i64 (e0 : Int), .int .i64 x1, .int .i64 x2] 69)) := by rw [hwx]; exact HX.out
                subst hwx
                have HBd : Hid (Below bs wx wx.drew ∧ Kp wx wx.drew) := ⟨(Below.refl _ _).drew, Kp.of ((Below.refl _ _).drew)⟩
                have pbb : Below wx.heap.size wx (wx.alloc (.cells #[.int .u8 (e0 : Int)] 5)).drew := ((Below.refl _ _).alloc (Nat.le_refl _) _).drew
                have pb9 : Hid (Below bs wx (wx.alloc (.cells #[.int .u8 (e0 : Int)] 5)).drew ∧ Kp wx (wx.alloc (.cells #[.int .u8 (e0 : Int)] 5)).drew) := ⟨pbb.mono hzX, Kp.of pbb⟩
                have HO9 : Hid (OwnB (wx.alloc (.cells #[.int .u8 (e0 : Int)] 5)).drew bs (.slice va vl vc) li) := ownsRow_later HOX.out pbb
                have HS9 : Hid (SrcB (wx.alloc (.cells #[.int .u8 (e0 : Int)] 5)).drew wx.heap.size [M.b1 (e0 : Int)]) := (srcB_num wx e0 he0).later ((Below.refl _ _).drew)
                have HZ9 : Hid (bs ≤ (wx.alloc (.cells #[.int .u8 (e0 : Int)] 5)).drew.heap.size) := Nat.le_trans hzX pbb.size
                clear pbb
                go_wp2_with fail
                rw [← HXw.out, ← HQ.out]
                refine wp_region_till 16 (fun V => V.cell? ⟨q, 0, none⟩ = some (.int .i64 (e0 : Int)) ∧ V.cell? ⟨q, 1, none⟩ = some (.int .i64 x1) ∧ V.cell? ⟨q, 2, none⟩ = some (.int .i64 x2)) (by kernel_rfl) (HSV.out _ HBd.out) (fun hHeld => ?_)
                refine till_go 0 (v := .slice va vl vc) rfl (by decide) (by kernel_rfl) (by kernel_rfl) (by kernel_rfl) (fun _ _ _ h => h) (Or.inl ⟨by rfl, fun V _ => (by go_simp)⟩) hHeld ?_
                try simp only [Act.put]
                refine till_go 1 (v := .pointer (some ⟨q, 0, none⟩)) rfl (by decide) (by kernel_rfl) (by kernel_rfl) (by kernel_rfl) (fun _ _ _ h => h) (Or.inl ⟨by rfl, fun V _ => (by go_simp)⟩) hHeld ?_
                try simp only [Act.put]
                refine till_take 2 (v := .int .i64 (e0 : Int)) rfl (by decide) (by kernel_rfl) (by kernel_rfl) (by kernel_rfl) (by kernel_rfl) (by kernel_rfl) (fun _ _ _ h => h) (Or.inl ⟨by rfl, fun V hV => (by obtain ⟨v0, v1, v2⟩ := hV; go_simp)⟩) hHeld ?_
                try simp only [Act.put]
                refine till_go 3 (v := .int .u8 (e0 : Int)) rfl (by decide) (by kernel_rfl) (by kernel_rfl) (by kernel_rfl) (fun _ _ _ h => h) (Or.inl ⟨by rfl, fun V _ => (by go_simp)⟩) hHeld ?_
                try simp only [Act.put]
                refine till_go 6 (v := .pointer (some ⟨q, 1, none⟩)) rfl (by decide) (by kernel_rfl) (by kernel_rfl) (by kernel_rfl) (fun _ _ _ h => h) (Or.inl ⟨by rfl, fun V _ => (by go_simp)⟩) hHeld ?_
                try simp only [Act.put]
                refine till_take 7 (v := .int .i64 x1) rfl (by decide) (by kernel_rfl) (by kernel_rfl) (by kernel_rfl) (by kernel_rfl) (by kernel_rfl) (fun _ _ _ h => h) (Or.inl ⟨by rfl, fun V hV => (by obtain ⟨v0, v1, v2⟩ := hV; go_simp)⟩) hHeld ?_
                try simp only [Act.put]
                refine till_go 8 (v := .int .i64 (n1 : Int)) rfl (by decide) (by kernel_rfl) (by kernel_rfl) (by kernel_rfl) (fun _ _ _ h => h) (Or.inl ⟨by rfl, fun V _ => (by go_simp)⟩) hHeld ?_
                try simp only [Act.put]
                refine till_go 11 (v := .pointer (some ⟨q, 2, none⟩)) rfl (by decide) (by kernel_rfl) (by kernel_rfl) (by kernel_rfl) (fun _ _ _ h => h) (Or.inl ⟨by rfl, fun V _ => (by go_simp)⟩) hHeld ?_
                try simp only [Act.put]
                refine till_take 12 (v := .int .i64 x2) rfl (by decide) (by kernel_rfl) (by kernel_rfl) (by kernel_rfl) (by kernel_rfl) (by kernel_rfl) (fun _ _ _ h => h) (Or.inl ⟨by rfl, fun V hV => (by obtain ⟨v0, v1, v2⟩ := hV; go_simp)⟩) hHeld ?_
                try simp only [Act.put]
                refine till_go 13 (v := .int .i64 (n2 : Int)) rfl (by decide) (by kernel_rfl) (by kernel_rfl) (by kernel_rfl) (fun _ _ _ h => h) (Or.inl ⟨by rfl, fun V _ => (by go_simp)⟩) hHeld ?_
                try simp only [Act.put]
                refine till_step 4 rfl (by decide) (by kernel_rfl) (fun K hK => ?_)
                go_simp
                refine hK.out _ _ (HSV.out _ pb9.out) (fun hHeld => ?_)
                clear hK K
                refine till_step 5 rfl (by decide) (by kernel_rfl) (fun K hK => ?_)
                refine step_bys rfl _ _ rfl bs _ li rfl HO9.out wx.heap.size 1 1 [M.b1 (e0 : Int)] rfl rfl HS9.out (by simp; omega) HZ9.out ?_
                intro va5 wa5 o8 g8
                obtain ⟨gb8, gk8⟩ := ownB_grown HO9.out g8 HZ9.out
                have Rwa5 : Hid (Below bs wx wa5 ∧ Kp wx wa5) := ⟨pb9.out.1.trans gb8, pb9.out.2.trans gk8⟩
                have HOwa5 : Hid (OwnB wa5 bs va5 (li ++ [M.b1 (e0 : Int)])) := o8
                obtain ⟨va5a, va5n, va5c, rfl⟩ := ownB_slice o8
                have hzwa5 : Hid (bs ≤ wa5.heap.size) := Nat.le_trans HZ9.out gb8.size
                refine hK.out _ _ (HSV.out _ Rwa5.out) (fun hHeld => ?_)
                clear hK K o8 g8 gb8 gk8
                refine till_step 9 rfl (by decide) (by kernel_rfl) (fun K hK => ?_)
                go_simp
                refine (twoB_any n1 wa5 hn1).mono ?_
                rintro e wa6 ⟨ta6, tc6, rfl, ts, _, tb⟩
                have Rwa6 : Hid (Below bs wx wa6 ∧ Kp wx wa6) := ⟨Rwa5.out.1.trans (tb.mono hzwa5.out), Rwa5.out.2.trans (Kp.of tb)⟩
                have HOwa6 : Hid (OwnB wa6 bs (.slice va5a va5n va5c) (li ++ [M.b1 (e0 : Int)])) := ownsRow_later HOwa5.out tb
                have HSwa6 : Hid (SrcB wa6 ta6 (M.b2 (n1 : Int))) := ts
                have hzwa6 : Hid (bs ≤ wa6.heap.size) := Nat.le_trans hzwa5.out tb.size
                refine hK.out _ _ (HSV.out _ Rwa6.out) (fun hHeld => ?_)
                clear hK K ts tb
                refine till_step 10 rfl (by decide) (by kernel_rfl) (fun K hK => ?_)
                refine step_bys rfl _ _ rfl bs _ (li ++ [M.b1 (e0 : Int)]) rfl HOwa6.out ta6 2 tc6 (M.b2 (n1 : Int)) rfl rfl HSwa6.out (by simp; omega) hzwa6.out ?_
                intro va7 wa7 o8 g8
                obtain ⟨gb8, gk8⟩ := ownB_grown HOwa6.out g8 hzwa6.out
                have Rwa7 : Hid (Below bs wx wa7 ∧ Kp wx wa7) := ⟨Rwa6.out.1.trans gb8, Rwa6.out.2.trans gk8⟩
                have HOwa7 : Hid (OwnB wa7 bs va7 ((li ++ [M.b1 (e0 : Int)]) ++ (M.b2 (n1 : Int)))) := o8
                obtain ⟨va7a, va7n, va7c, rfl⟩ := ownB_slice o8
                have hzwa7 : Hid (bs ≤ wa7.heap.size) := Nat.le_trans hzwa6.out gb8.size
                refine hK.out _ _ (HSV.out _ Rwa7.out) (fun hHeld => ?_)
                clear hK K o8 g8 gb8 gk8
                refine till_step 14 rfl (by decide) (by kernel_rfl) (fun K hK => ?_)
                go_simp
                refine (twoB_any n2 wa7 hn2).mono ?_
                rintro e wa8 ⟨ta8, tc8, rfl, ts, _, tb⟩
                have Rwa8 : Hid (Below bs wx wa8 ∧ Kp wx wa8) := ⟨Rwa7.out.1.trans (tb.mono hzwa7.out), Rwa7.out.2.trans (Kp.of tb)⟩
                have HOwa8 : Hid (OwnB wa8 bs (.slice va7a va7n va7c) ((li ++ [M.b1 (e0 : Int)]) ++ M.b2 (n1 : Int))) := ownsRow_later HOwa7.out tb
                have HSwa8 : Hid (SrcB wa8 ta8 (M.b2 (n2 : Int))) := ts
                have hzwa8 : Hid (bs ≤ wa8.heap.size) := Nat.le_trans hzwa7.out tb.size
                refine hK.out _ _ (HSV.out _ Rwa8.out) (fun hHeld => ?_)
                clear hK K ts tb
                refine till_step 15 rfl (by decide) (by kernel_rfl) (fun K hK => ?_)
                refine step_bys rfl _ _ rfl bs _ ((li ++ [M.b1 (e0 : Int)]) ++ M.b2 (n1 : Int)) rfl HOwa8.out ta8 2 tc8 (M.b2 (n2 : Int)) rfl rfl HSwa8.out (by simp [M.b2]; omega) hzwa8.out ?_
                intro v6 w6 o6 g6
                obtain ⟨gb6, gk6⟩ := ownB_grown HOwa8.out g6 hzwa8.out
                have R6 : Hid (Below bs wx w6 ∧ Kp wx w6) := ⟨Rwa8.out.1.trans gb6, Rwa8.out.2.trans gk6⟩
                rw [HSt.out] at o6
                have HO6 : Aside (OwnB w6 bs v6 (l4 ++ (x.chs.take (k + 1)).flatMap M.pC)) := o6
                refine hK.out _ _ (HSV.out _ R6.out) (fun hHeld => ?_)
                clear hK K o6 g6 gb6 gk6
                refine till_last rfl (by kernel_rfl) (by kernel_rfl) (fun K hK => ?_) _
                go_simp
                refine hK.out _ _ ?_
                clear hK K
                go_wp2
                go_roundg (m - k - 1)
                case measure => omega
                case rel => exact ⟨k + 1, by omega, by go_num, HO6, HOkn, hbX.trans (bqX.trans R6.out.1)⟩
              · obtain rfl : k = m := by omega
                have hkk2 : decide ((k : Int) < (k : Int)) = false := by simp
                have e1 : x.chs.take k = x.chs := List.take_of_length_le (by rw [HLn.out]; exact Nat.le_refl _)
                rw [e1] at HOk HAll
                have hgood := HGoodA.out HAll.out
                have hfin : l4 ++ x.chs.flatMap M.pC = M.pA x := by
                  rw [HL4.out]
                  unfold M.pA M.pL
                  rw [HLn.out, ← HKd.out]
                  simp
                have ho := HOk.out
                rw [hfin] at ho
                have hcv := ownB_conv ho
                rw [← hgood.1] at hcv
                have hF := hgood.2
                have BZ := HBw.out wr hbX
                subst hF
                clear e1 hfin ho hgood
                go_wp2
                go_ret2
                exact ⟨rfl, BZ⟩
        case h8B =>
          go_simp
          refine hK.out _ _ (HSV.out _ pb9.out) (fun hHeld => ?_)
          clear hK K
          refine till_step 3 rfl (by decide) (by kernel_rfl) (fun K hK => ?_)
          go_simp
          refine (HTx.out _).mono ?_
          rintro e w7 ⟨ta, tc, rfl, ts, _, tb⟩
          have tb : Below (wx.alloc (.cells #[.int .u8 (m : Int)] 5)).drew.heap.size (wx.alloc (.cells #[.int .u8 (m : Int)] 5)).drew w7 := tb
          have R7 : Hid (Below bs wx w7 ∧ Kp wx w7) := ⟨pb9.out.1.trans (tb.mono HZ9.out), pb9.out.2.trans (Kp.of tb)⟩
          have HO7 : Hid (OwnB w7 bs (.slice va vl vc) lk) := ownsRow_later HO9.out tb
          have HT7 : Hid (SrcB w7 ta (M.pT x.two)) := ts
          have HS7 : Hid (SrcB w7 wx.heap.size [M.b1 (m : Int)]) := HS9.out.later tb
          have hz7 : Hid (bs ≤ w7.heap.size) := Nat.le_trans HZ9.out tb.size
          refine hK.out _ _ (HSV.out _ R7.out) (fun hHeld => ?_)
          clear hK K ts tb
          refine till_step 4 rfl (by decide) (by kernel_rfl) (fun K hK => ?_)
          refine step_bys rfl _ _ rfl bs _ lk rfl HO7.out ta ml tc (M.pT x.two) rfl HPl.out HT7.out (by omega) hz7.out ?_
          intro v8 w8 o8 g8
          obtain ⟨gb8, gk8⟩ := ownB_grown HO7.out g8 hz7.out
          have R8 : Hid (Below bs wx w8 ∧ Kp wx w8) := ⟨R7.out.1.trans gb8, R7.out.2.trans gk8⟩
          have HO8 : Hid (OwnB w8 bs v8 (lk ++ M.pT x.two)) := o8
          have HG8 : Hid (w7.grownBy w8 (Value.slice va vl vc).ownBlock) := g8
          obtain ⟨qa, qn, qc, rfl⟩ := ownB_slice o8
          have hz8 : Hid (bs ≤ w8.heap.size) := Nat.le_trans hz7.out gb8.size
          refine hK.out _ _ (HSV.out _ R8.out) (fun hHeld => ?_)
          clear hK K o8 g8 gb8 gk8
          have HS8 : Hid (SrcB w8 wx.heap.size [M.b1 (m : Int)]) := HS7.out.grown HG8.out (fun k e => by have := HLt.out k e; omega)
          refine till_step 10 rfl (by decide) (by kernel_rfl) (fun K hK => ?_)
          refine step_bys rfl _ _ rfl bs _ (lk ++ M.pT x.two) rfl HO8.out wx.heap.size 1 1 [M.b1 (m : Int)] rfl rfl HS8.out (by rw [List.length_append, HPl.out]; omega) hz8.out ?_
          intro v6 w6 o6 g6
          obtain ⟨gb6, gk6⟩ := ownB_grown HO8.out g6 hz8.out
          have R6 : Hid (Below bs wx w6 ∧ Kp wx w6) := ⟨R8.out.1.trans gb6, R8.out.2.trans gk6⟩
          have HO6 : Hid (OwnB w6 bs v6 ((lk ++ M.pT x.two) ++ [M.b1 (m : Int)])) := o6
          refine hK.out _ _ (HSV.out _ R6.out) (fun hHeld => ?_)
          clear hK K o6 g6 gb6 gk6
          refine till_last rfl (by kernel_rfl) (by kernel_rfl) (fun K hK => ?_) _
          go_simp
          refine hK.out _ _ ?_
          clear hK K
          obtain ⟨l4, hl4⟩ : ∃ l4, l4 = (([M.b1 (kd : Int)] ++ M.pT x.one) ++ M.pT x.two) ++ [M.b1 (m : Int)] := ⟨_, rfl⟩
          have HL4 : Hid (l4 = (([M.b1 (kd : Int)] ++ M.pT x.one) ++ M.pT x.two) ++ [M.b1 (m : Int)]) := hl4
          have hl45 : l4.length ≤ 600 := by have e1 := HL1.out; have e2 := HL2.out; rw [hl4]; simp [M.pT]; omega
          have o4 := HO6.out
          rw [Hlk.out, ← hl4] at o4
          have HO40 : Aside (OwnB w6 bs v6 (l4 ++ (x.chs.take 0).flatMap M.pC)) := by unfold Aside; simpa using o4
          have bX6 : Below bs X1 w6 := HX17.out.trans R6.out.1
          clear o4 hl4 HO6
          go_wp2_with fail
          go_loopg [6, 7] m (fun g v i wr => ∃ k : Nat, k + g = m ∧ i = .int .i64 k ∧ Aside (OwnB wr bs v (l4 ++ (x.chs.take k).flatMap M.pC)) ∧ Aside (∀ c ∈ x.chs.take k, M.okC c) ∧ Below bs X1 wr)
          case atStart => exact ⟨0, by omega, rfl, HO40, by unfold Aside; simp, bX6⟩
          case round =>
            obtain ⟨k, hk, rfl, HOk, HAll, hbX⟩ := hrel
            obtain ⟨va, vl, vc, hv⟩ := ownB_slice HOk.out
            subst hv
            obtain ⟨_, _, _, j3⟩ := HBx.out wr hbX
            have hzr : bs ≤ wr.heap.size := by have := hbX.size; rw [HX1s.out] at this; exact this
            by_cases hkm : k < m
            · have hki : (k : Int) < (m : Int) := by omega
              have hkn : k < x.chs.length := by rw [HLn.out]; exact hkm
              obtain ⟨ab, ao, rfl, hab, hc⟩ : ∃ ab ao, a = some ⟨ab, ao, none⟩ ∧ ab < wr.heap.size ∧ (wr.cell? ⟨ab, ao + k * 3, none⟩ = some (.int .i64 (x.chs.getD k (0, 0, 0)).1) ∧ wr.cell? ⟨ab, ao + k * 3 + 1, none⟩ = some (.int .i64 (x.chs.getD k (0, 0, 0)).2.1) ∧ wr.cell? ⟨ab, ao + k * 3 + 2, none⟩ = some (.int .i64 (x.chs.getD k (0, 0, 0)).2.2)) := by
                rcases (HRc.out wr hbX).cases with ⟨h0, _⟩ | ⟨ab, ao, e, _, _, hB, hc⟩
                · omega
                · exact ⟨ab, ao, e, hB, hc k hkm⟩
              have hmem : x.chs.getD k (0, 0, 0) ∈ x.chs := getD_memA hkn
              have hst := fmA_take M.pC (0, 0, 0) x.chs k hkn
              have hrg := HRg.out _ hmem
              obtain ⟨c, hcc⟩ : ∃ c, c = x.chs.getD k (0, 0, 0) := ⟨_, rfl⟩
              rw [← hcc] at hc hst hrg hmem
              have hck : x.chs[k] = c := by rw [hcc]; simp [List.getD, hkn]
              obtain ⟨x0, x1, x2⟩ := c
              obtain ⟨ck, c1, c2⟩ := hc
              simp only at ck c1 c2
              obtain ⟨hi1, hi2⟩ := hrg
              have hi1 : M.inI x1 := hi1
              have hi2 : M.inI x2 := hi2
              unfold M.inI at hi1 hi2
              have HMem : Hid ((x0, x1, x2) ∈ x.chs) := hmem
              obtain ⟨q, hq⟩ : ∃ q, q = wr.heap.size := ⟨_, rfl⟩
              obtain ⟨X, hX⟩ : ∃ X, X = wr.alloc (.cells #[.int .i64 x0, .int .i64 x1, .int .i64 x2] 69) := ⟨_, rfl⟩
              have bX : Below wr.heap.size wr X := by rw [hX]; exact (Below.refl _ _).alloc (Nat.le_refl _) _
              have hX0 : X.heap[q]? = some (.cells #[.int .i64 x0, .int .i64 x1, .int .i64 x2] 69 (0, 0)) := by rw [hX, hq]; exact heap_alloc_new _ _
              have HXc : Hid (∀ V, Kp X V → V.cell? ⟨q, 0, none⟩ = some (.int .i64 x0) ∧ V.cell? ⟨q, 1, none⟩ = some (.int .i64 x1) ∧ V.cell? ⟨q, 2, none⟩ = some (.int .i64 x2)) := fun V hV => by
                have blk := hV _ _ _ (by decide) (by decide) hX0
                exact ⟨by rw [cell_of_row _ _ _ _ _ _ blk]; rfl, by rw [cell_of_row _ _ _ _ _ _ blk]; rfl, by rw [cell_of_row _ _ _ _ _ _ blk]; rfl⟩
              have bqX : Below bs wr X := bX.mono hzr
              have HX : Hid (X = wr.alloc (.cells #[.int .i64 x0, .int .i64 x1, .int .i64 x2] 69)) := hX
              have HQ : Aside (q = wr.heap.size) := hq
              have bZX : Below w.heap.size w X := HBw.out X (hbX.trans bqX)
              have HZX : Hid (Below w.heap.size w X) := bZX
              have HOX : Hid (OwnB X bs (.slice va vl vc) (l4 ++ (x.chs.take k).flatMap M.pC)) := ownsRow_later HOk.out bX
              obtain ⟨t0, t1, t2⟩ := HXc.out X (Kp.refl _)
              rw [hX] at t0 t1 t2
              have HHck : Hid (x.chs[k] = (x0, x1, x2)) := hck
              have hzX : bs ≤ X.heap.size := Nat.le_trans hzr bX.size
              clear hcc hmem hX hq bX hX0 hck bZX
              by_cases g0 : 0 ≤ x0 ∧ x0 ≤ 255
              case neg =>
                have HBad : Hid (sB = ⟨#[]⟩ ∧ F = 3) := HBadA.out (fun h => g0 (by have := h.2.2.2.2 _ HMem.out; obtain ⟨z1, z2, _⟩ := this; simp only at z1 z2; omega))
                have KW : Hid (∀ V, Calls Tryz.prog 64 #[.int .i64 x0, .int .i64 0, .int .i64 255] V fun e w' => e = .returned (.bool false) ∧ w' = V) := fun V => within_no x0 0 255 V (by omega)
                clear g0
                go_wp2_with (go_at_call 64; refine (KW.out _).mono ?_; rintro e w2 ⟨rfl, rfl⟩)
                rw [← HX.out]
                go_ret2
                exact ⟨by rw [HBad.out.1, HBad.out.2]; rfl, HZX.out⟩
              have KW0 : Hid (∀ V, Calls Tryz.prog 64 #[.int .i64 x0, .int .i64 0, .int .i64 255] V fun e w' => e = .returned (.bool true) ∧ w' = V) := fun V => within_yes x0 0 255 V g0.1 g0.2
              by_cases g1 : -1 ≤ x1 ∧ x1 ≤ 65534
              case neg =>
                have HBad : Hid (sB = ⟨#[]⟩ ∧ F = 3) := HBadA.out (fun h => g1 (by have := h.2.2.2.2 _ HMem.out; obtain ⟨_, _, z1, z2, _⟩ := this; simp only at z1 z2; omega))
                have KW : Hid (∀ V, Calls Tryz.prog 64 #[.int .i64 x1, .int .i64 (-1), .int .i64 65534] V fun e w' => e = .returned (.bool false) ∧ w' = V) := fun V => within_no x1 (-1) 65534 V (by omega)
                clear g0 g1
                go_wp2_with fail
                refine (KW0.out _).mono ?_
                rintro e w2 ⟨rfl, rfl⟩
                go_wp2_with fail
                refine (KW.out _).mono ?_
                rintro e w2 ⟨rfl, rfl⟩
                go_wp2
                rw [← HX.out]
                go_ret2
                exact ⟨by rw [HBad.out.1, HBad.out.2]; rfl, HZX.out⟩
              have KW1 : Hid (∀ V, Calls Tryz.prog 64 #[.int .i64 x1, .int .i64 (-1), .int .i64 65534] V fun e w' => e = .returned (.bool true) ∧ w' = V) := fun V => within_yes x1 (-1) 65534 V g1.1 g1.2
              by_cases g2 : -1 ≤ x2 ∧ x2 ≤ 65534
              case neg =>
                have HBad : Hid (sB = ⟨#[]⟩ ∧ F = 3) := HBadA.out (fun h => g2 (by have := h.2.2.2.2 _ HMem.out; obtain ⟨_, _, _, _, z1, z2⟩ := this; simp only at z1 z2; omega))
                have KW : Hid (∀ V, Calls Tryz.prog 64 #[.int .i64 x2, .int .i64 (-1), .int .i64 65534] V fun e w' => e = .returned (.bool false) ∧ w' = V) := fun V => within_no x2 (-1) 65534 V (by omega)
                clear g0 g1 g2
                go_wp2_with fail
                refine (KW0.out _).mono ?_
                rintro e w2 ⟨rfl, rfl⟩
                go_wp2_with fail
                refine (KW1.out _).mono ?_
                rintro e w2 ⟨rfl, rfl⟩
                go_wp2_with fail
                refine (KW.out _).mono ?_
                rintro e w2 ⟨rfl, rfl⟩
                go_wp2
                rw [← HX.out]
                go_ret2
                exact ⟨by rw [HBad.out.1, HBad.out.2]; rfl, HZX.out⟩
              have KW2 : Hid (∀ V, Calls Tryz.prog 64 #[.int .i64 x2, .int .i64 (-1), .int .i64 65534] V fun e w' => e = .returned (.bool true) ∧ w' = V) := fun V => within_yes x2 (-1) 65534 V g2.1 g2.2
              obtain ⟨e0, rfl⟩ : ∃ e0 : Nat, x0 = (e0 : Int) := ⟨x0.toNat, by omega⟩
              obtain ⟨n1, hn1e⟩ : ∃ n1 : Nat, x1 + 1 = (n1 : Int) := ⟨(x1 + 1).toNat, by omega⟩
              obtain ⟨n2, hn2e⟩ : ∃ n2 : Nat, x2 + 1 = (n2 : Int) := ⟨(x2 + 1).toNat, by omega⟩
              have he0 : e0 < 256 := by omega
              have hn1 : n1 < 65536 := by omega
              have hn2 : n2 < 65536 := by omega
              obtain ⟨li, hli⟩ : ∃ li, li = l4 ++ (x.chs.take k).flatMap M.pC := ⟨_, rfl⟩
              have hli5 : li.length ≤ 5000 := by
                have h5 : ∀ l : List M.Chg, (l.flatMap M.pC).length = 5 * l.length := by
                  intro l
                  induction l with
                  | nil => rfl
                  | cons c t ih => rw [List.flatMap_cons, List.length_append, ih]; simp [M.pC, M.b2]; omega
                rw [hli, List.length_append, h5, List.length_take]
                omega
              rw [← hli] at HOX
              have HSt : Hid ((((li ++ [M.b1 (e0 : Int)]) ++ M.b2 (n1 : Int)) ++ M.b2 (n2 : Int)) = l4 ++ (x.chs.take (k + 1)).flatMap M.pC) := by
                unfold Hid
                rw [hst, hli]
                unfold M.pC
                simp only
                rw [hn1e, hn2e]
                simp
              have HOkn : Aside (∀ c ∈ x.chs.take (k + 1), M.okC c) := by
                intro c hc
                rw [List.take_succ_eq_append_getElem hkn] at hc
                rcases List.mem_append.1 hc with hc | hc
                · exact HAll.out c hc
                · rw [List.mem_singleton.1 hc, HHck.out]
                  refine ⟨?_, ?_, ?_, ?_, ?_, ?_⟩ <;> (simp only; omega)
              clear hst hli g0 g1 g2
              have hk2 : wr.heap.size ≤ X.heap.size := by rw [HX.out]; simp
              go_wp2_with fail
              refine (KW0.out _).mono ?_
              rintro e w2 ⟨rfl, rfl⟩
              go_wp2_with fail
              refine (KW1.out _).mono ?_
              rintro e w2 ⟨rfl, rfl⟩
              go_wp2_with fail
              refine (KW2.out _).mono ?_
              rintro e w2 ⟨rfl, rfl⟩
              clear t0 t1 t2 KW0 KW1 KW2 ck c1 c2
              obtain ⟨wx, hwx⟩ : ∃ wx, wx = X := ⟨_, rfl⟩
              have HSV : Hid (∀ V, (Below bs wx V ∧ Kp wx V) → V.cell? ⟨q, 0, none⟩ = some (.int .i64 (e0 : Int)) ∧ V.cell? ⟨q, 1, none⟩ = some (.int .i64 x1) ∧ V.cell? ⟨q, 2, none⟩ = some (.int .i64 x2)) := fun V hV => HXc.out V (by rw [← hwx]; exact hV.2)
              have w8u : IntKind.u8.wrap (e0 : Int) = (e0 : Int) := by rw [IntKind.wrap_u8]; omega
              have wn1 : IntKind.i64.wrap (n1 : Int) = (n1 : Int) := by rw [IntKind.wrap_i64]; omega
              have wn2 : IntKind.i64.wrap (n2 : Int) = (n2 : Int) := by rw [IntKind.wrap_i64]; omega
              have HXw : Hid (wx = wr.alloc (.cells #[.int .i64 (e0 : Int), .int .i64 x1, .int .i64 x2] 69)) := by rw [hwx]; exact HX.out
              subst hwx
              have HBd : Hid (Below bs wx wx.drew ∧ Kp wx wx.drew) := ⟨(Below.refl _ _).drew, Kp.of ((Below.refl _ _).drew)⟩
              have pbb : Below wx.heap.size wx (wx.alloc (.cells #[.int .u8 (e0 : Int)] 5)).drew := ((Below.refl _ _).alloc (Nat.le_refl _) _).drew
              have pb9 : Hid (Below bs wx (wx.alloc (.cells #[.int .u8 (e0 : Int)] 5)).drew ∧ Kp wx (wx.alloc (.cells #[.int .u8 (e0 : Int)] 5)).drew) := ⟨pbb.mono hzX, Kp.of pbb⟩
              have HO9 : Hid (OwnB (wx.alloc (.cells #[.int .u8 (e0 : Int)] 5)).drew bs (.slice va vl vc) li) := ownsRow_later HOX.out pbb
              have HS9 : Hid (SrcB (wx.alloc (.cells #[.int .u8 (e0 : Int)] 5)).drew wx.heap.size [M.b1 (e0 : Int)]) := (srcB_num wx e0 he0).later ((Below.refl _ _).drew)
              have HZ9 : Hid (bs ≤ (wx.alloc (.cells #[.int .u8 (e0 : Int)] 5)).drew.heap.size) := Nat.le_trans hzX pbb.size
              clear pbb
              go_wp2_with fail
              rw [← HXw.out, ← HQ.out]
              refine wp_region_till 16 (fun V => V.cell? ⟨q, 0, none⟩ = some (.int .i64 (e0 : Int)) ∧ V.cell? ⟨q, 1, none⟩ = some (.int .i64 x1) ∧ V.cell? ⟨q, 2, none⟩ = some (.int .i64 x2)) (by kernel_rfl) (HSV.out _ HBd.out) (fun hHeld => ?_)
              refine till_go 0 (v := .slice va vl vc) rfl (by decide) (by kernel_rfl) (by kernel_rfl) (by kernel_rfl) (fun _ _ _ h => h) (Or.inl ⟨by rfl, fun V _ => (by go_simp)⟩) hHeld ?_
              try simp only [Act.put]
              refine till_go 1 (v := .pointer (some ⟨q, 0, none⟩)) rfl (by decide) (by kernel_rfl) (by kernel_rfl) (by kernel_rfl) (fun _ _ _ h => h) (Or.inl ⟨by rfl, fun V _ => (by go_simp)⟩) hHeld ?_
              try simp only [Act.put]
              refine till_take 2 (v := .int .i64 (e0 : Int)) rfl (by decide) (by kernel_rfl) (by kernel_rfl) (by kernel_rfl) (by kernel_rfl) (by kernel_rfl) (fun _ _ _ h => h) (Or.inl ⟨by rfl, fun V hV => (by obtain ⟨v0, v1, v2⟩ := hV; go_simp)⟩) hHeld ?_
              try simp only [Act.put]
              refine till_go 3 (v := .int .u8 (e0 : Int)) rfl (by decide) (by kernel_rfl) (by kernel_rfl) (by kernel_rfl) (fun _ _ _ h => h) (Or.inl ⟨by rfl, fun V _ => (by go_simp)⟩) hHeld ?_
              try simp only [Act.put]
              refine till_go 6 (v := .pointer (some ⟨q, 1, none⟩)) rfl (by decide) (by kernel_rfl) (by kernel_rfl) (by kernel_rfl) (fun _ _ _ h => h) (Or.inl ⟨by rfl, fun V _ => (by go_simp)⟩) hHeld ?_
              try simp only [Act.put]
              refine till_take 7 (v := .int .i64 x1) rfl (by decide) (by kernel_rfl) (by kernel_rfl) (by kernel_rfl) (by kernel_rfl) (by kernel_rfl) (fun _ _ _ h => h) (Or.inl ⟨by rfl, fun V hV => (by obtain ⟨v0, v1, v2⟩ := hV; go_simp)⟩) hHeld ?_
              try simp only [Act.put]
              refine till_go 8 (v := .int .i64 (n1 : Int)) rfl (by decide) (by kernel_rfl) (by kernel_rfl) (by kernel_rfl) (fun _ _ _ h => h) (Or.inl ⟨by rfl, fun V _ => (by go_simp)⟩) hHeld ?_
              try simp only [Act.put]
              refine till_go 11 (v := .pointer (some ⟨q, 2, none⟩)) rfl (by decide) (by kernel_rfl) (by kernel_rfl) (by kernel_rfl) (fun _ _ _ h => h) (Or.inl ⟨by rfl, fun V _ => (by go_simp)⟩) hHeld ?_
              try simp only [Act.put]
              refine till_take 12 (v := .int .i64 x2) rfl (by decide) (by kernel_rfl) (by kernel_rfl) (by kernel_rfl) (by kernel_rfl) (by kernel_rfl) (fun _ _ _ h => h) (Or.inl ⟨by rfl, fun V hV => (by obtain ⟨v0, v1, v2⟩ := hV; go_simp)⟩) hHeld ?_
              try simp only [Act.put]
              refine till_go 13 (v := .int .i64 (n2 : Int)) rfl (by decide) (by kernel_rfl) (by kernel_rfl) (by kernel_rfl) (fun _ _ _ h => h) (Or.inl ⟨by rfl, fun V _ => (by go_simp)⟩) hHeld ?_
              try simp only [Act.put]
              refine till_step 4 rfl (by decide) (by kernel_rfl) (fun K hK => ?_)
              go_simp
              refine hK.out _ _ (HSV.out _ pb9.out) (fun hHeld => ?_)
              clear hK K
              refine till_step 5 rfl (by decide) (by kernel_rfl) (fun K hK => ?_)
              refine step_bys rfl _ _ rfl bs _ li rfl HO9.out wx.heap.size 1 1 [M.b1 (e0 : Int)] rfl rfl HS9.out (by simp; omega) HZ9.out ?_
              intro va5 wa5 o8 g8
              obtain ⟨gb8, gk8⟩ := ownB_grown HO9.out g8 HZ9.out
              have Rwa5 : Hid (Below bs wx wa5 ∧ Kp wx wa5) := ⟨pb9.out.1.trans gb8, pb9.out.2.trans gk8⟩
              have HOwa5 : Hid (OwnB wa5 bs va5 (li ++ [M.b1 (e0 : Int)])) := o8
              obtain ⟨va5a, va5n, va5c, rfl⟩ := ownB_slice o8
              have hzwa5 : Hid (bs ≤ wa5.heap.size) := Nat.le_trans HZ9.out gb8.size
              refine hK.out _ _ (HSV.out _ Rwa5.out) (fun hHeld => ?_)
              clear hK K o8 g8 gb8 gk8
              refine till_step 9 rfl (by decide) (by kernel_rfl) (fun K hK => ?_)
              go_simp
              refine (twoB_any n1 wa5 hn1).mono ?_
              rintro e wa6 ⟨ta6, tc6, rfl, ts, _, tb⟩
              have Rwa6 : Hid (Below bs wx wa6 ∧ Kp wx wa6) := ⟨Rwa5.out.1.trans (tb.mono hzwa5.out), Rwa5.out.2.trans (Kp.of tb)⟩
              have HOwa6 : Hid (OwnB wa6 bs (.slice va5a va5n va5c) (li ++ [M.b1 (e0 : Int)])) := ownsRow_later HOwa5.out tb
              have HSwa6 : Hid (SrcB wa6 ta6 (M.b2 (n1 : Int))) := ts
              have hzwa6 : Hid (bs ≤ wa6.heap.size) := Nat.le_trans hzwa5.out tb.size
              refine hK.out _ _ (HSV.out _ Rwa6.out) (fun hHeld => ?_)
              clear hK K ts tb
              refine till_step 10 rfl (by decide) (by kernel_rfl) (fun K hK => ?_)
              refine step_bys rfl _ _ rfl bs _ (li ++ [M.b1 (e0 : Int)]) rfl HOwa6.out ta6 2 tc6 (M.b2 (n1 : Int)) rfl rfl HSwa6.out (by simp; omega) hzwa6.out ?_
              intro va7 wa7 o8 g8
              obtain ⟨gb8, gk8⟩ := ownB_grown HOwa6.out g8 hzwa6.out
              have Rwa7 : Hid (Below bs wx wa7 ∧ Kp wx wa7) := ⟨Rwa6.out.1.trans gb8, Rwa6.out.2.trans gk8⟩
              have HOwa7 : Hid (OwnB wa7 bs va7 ((li ++ [M.b1 (e0 : Int)]) ++ (M.b2 (n1 : Int)))) := o8
              obtain ⟨va7a, va7n, va7c, rfl⟩ := ownB_slice o8
              have hzwa7 : Hid (bs ≤ wa7.heap.size) := Nat.le_trans hzwa6.out gb8.size
              refine hK.out _ _ (HSV.out _ Rwa7.out) (fun hHeld => ?_)
              clear hK K o8 g8 gb8 gk8
              refine till_step 14 rfl (by decide) (by kernel_rfl) (fun K hK => ?_)
              go_simp
              refine (twoB_any n2 wa7 hn2).mono ?_
              rintro e wa8 ⟨ta8, tc8, rfl, ts, _, tb⟩
              have Rwa8 : Hid (Below bs wx wa8 ∧ Kp wx wa8) := ⟨Rwa7.out.1.trans (tb.mono hzwa7.out), Rwa7.out.2.trans (Kp.of tb)⟩
              have HOwa8 : Hid (OwnB wa8 bs (.slice va7a va7n va7c) ((li ++ [M.b1 (e0 : Int)]) ++ M.b2 (n1 : Int))) := ownsRow_later HOwa7.out tb
              have HSwa8 : Hid (SrcB wa8 ta8 (M.b2 (n2 : Int))) := ts
              have hzwa8 : Hid (bs ≤ wa8.heap.size) := Nat.le_trans hzwa7.out tb.size
              refine hK.out _ _ (HSV.out _ Rwa8.out) (fun hHeld => ?_)
              clear hK K ts tb
              refine till_step 15 rfl (by decide) (by kernel_rfl) (fun K hK => ?_)
              refine step_bys rfl _ _ rfl bs _ ((li ++ [M.b1 (e0 : Int)]) ++ M.b2 (n1 : Int)) rfl HOwa8.out ta8 2 tc8 (M.b2 (n2 : Int)) rfl rfl HSwa8.out (by simp [M.b2]; omega) hzwa8.out ?_
              intro v6 w6 o6 g6
              obtain ⟨gb6, gk6⟩ := ownB_grown HOwa8.out g6 hzwa8.out
              have R6 : Hid (Below bs wx w6 ∧ Kp wx w6) := ⟨Rwa8.out.1.trans gb6, Rwa8.out.2.trans gk6⟩
              rw [HSt.out] at o6
              have HO6 : Aside (OwnB w6 bs v6 (l4 ++ (x.chs.take (k + 1)).flatMap M.pC)) := o6
              refine hK.out _ _ (HSV.out _ R6.out) (fun hHeld => ?_)
              clear hK K o6 g6 gb6 gk6
              refine till_last rfl (by kernel_rfl) (by kernel_rfl) (fun K hK => ?_) _
              go_simp
              refine hK.out _ _ ?_
              clear hK K
              go_wp2
              go_roundg (m - k - 1)
              case measure => omega
              case rel => exact ⟨k + 1, by omega, by go_num, HO6, HOkn, hbX.trans (bqX.trans R6.out.1)⟩
            · obtain rfl : k = m := by omega
              have hkk2 : decide ((k : Int) < (k : Int)) = false := by simp
              have e1 : x.chs.take k = x.chs := List.take_of_length_le (by rw [HLn.out]; exact Nat.le_refl _)
              rw [e1] at HOk HAll
              have hgood := HGoodA.out HAll.out
              have hfin : l4 ++ x.chs.flatMap M.pC = M.pA x := by
                rw [HL4.out]
                unfold M.pA M.pL
                rw [HLn.out, ← HKd.out]
                simp
              have ho := HOk.out
              rw [hfin] at ho
              have hcv := ownB_conv ho
              rw [← hgood.1] at hcv
              have hF := hgood.2
              have BZ := HBw.out wr hbX
              subst hF
              clear e1 hfin ho hgood
              go_wp2
              go_ret2
              exact ⟨rfl, BZ⟩
      case hB =>
        go_simp
        refine (HTx.out _).mono ?_
        rintro e w7 ⟨ta, tc, rfl, ts, _, tb⟩
        have tb : Below X1.drew.heap.size X1.drew w7 := tb
        have R7 : Hid (Below bs X1 w7 ∧ Kp X1 w7) := ⟨HBd.out.1.trans (tb.mono HZx.out), HBd.out.2.trans (Kp.of tb)⟩
        have HT7 : Hid (SrcB w7 ta (M.pT x.one)) := ts
        have hz7 : Hid (bs ≤ w7.heap.size) := Nat.le_trans HZx.out tb.size
        refine hK.out _ _ (HSV.out _ R7.out) (fun hHeld => ?_)
        clear hK K ts tb
        refine till_step 3 rfl (by decide) (by kernel_rfl) (fun K hK => ?_)
        go_simp
        have ta7 : Below w7.heap.size w7 (w7.alloc (.cells #[.int .u8 (kd : Int)] 5)) := (Below.refl _ _).alloc (Nat.le_refl _) _
        have R5 : Hid (Below bs X1 (w7.alloc (.cells #[.int .u8 (kd : Int)] 5)) ∧ Kp X1 (w7.alloc (.cells #[.int .u8 (kd : Int)] 5))) := ⟨R7.out.1.trans (ta7.mono hz7.out), R7.out.2.trans (Kp.of ta7)⟩
        have HO5 : Hid (OwnB (w7.alloc (.cells #[.int .u8 (kd : Int)] 5)) bs (.slice (some ⟨w7.heap.size, 0, none⟩) 1 1) [M.b1 (kd : Int)]) := ownsRow_lower (ownB_num w7 kd hkd) hz7.out
        have HT5 : Hid (SrcB (w7.alloc (.cells #[.int .u8 (kd : Int)] 5)) ta (M.pT x.one)) := HT7.out.later ta7
        have hz5 : Hid (bs ≤ (w7.alloc (.cells #[.int .u8 (kd : Int)] 5)).heap.size) := Nat.le_trans hz7.out ta7.size
        refine hK.out _ _ (HSV.out _ R5.out) (fun hHeld => ?_)
        clear hK K ta7
        refine till_step 7 rfl (by decide) (by kernel_rfl) (fun K hK => ?_)
        refine step_bys rfl _ _ rfl bs _ [M.b1 (kd : Int)] rfl HO5.out ta ml tc (M.pT x.one) rfl HPl.out HT5.out (by simp; omega) hz5.out ?_
        intro v6 w6 o6 g6
        obtain ⟨gb6, gk6⟩ := ownB_grown HO5.out g6 hz5.out
        have R6 : Hid (Below bs X1 w6 ∧ Kp X1 w6) := ⟨R5.out.1.trans gb6, R5.out.2.trans gk6⟩
        have HO6 : Hid (OwnB w6 bs v6 ([M.b1 (kd : Int)] ++ M.pT x.one)) := o6
        refine hK.out _ _ (HSV.out _ R6.out) (fun hHeld => ?_)
        clear hK K o6 g6 gb6 gk6
        refine till_last rfl (by kernel_rfl) (by kernel_rfl) (fun K hK => ?_) _
        go_simp
        refine hK.out _ _ ?_
        clear hK K
        obtain ⟨va, vl, vc, hv⟩ := ownB_slice HO6.out
        subst hv
        obtain ⟨lk, hlk⟩ : ∃ lk, lk = [M.b1 (kd : Int)] ++ M.pT x.one := ⟨_, rfl⟩
        have Hlk : Hid (lk = [M.b1 (kd : Int)] ++ M.pT x.one) := hlk
        have hlk5 : lk.length ≤ 300 := by rw [hlk, List.length_append, HPl.out]; simp; omega
        rw [← hlk] at HO6
        have HX16 : Hid (Below bs X1 w6) := HX17.out.trans R6.out.1
        have HO6i : Hid (OwnB w6 bs (.slice va vl vc) lk) := HO6
        have hz6 : Hid (bs ≤ w6.heap.size) := by unfold Hid; have := HX16.out.size; rw [HX1s.out] at this; exact this
        clear HSV HBd pb9 HO9 HZ9 HZx HTx HPl hml5 hlk HX17 HO6 R6 hzx
        obtain ⟨wx, hwx⟩ : ∃ wx, wx = w6 := ⟨_, rfl⟩
        subst hwx
        have HX17 : Hid (Below bs X1 wx) := HX16
        have hzx : bs ≤ wx.heap.size := hz6.out
        have HSV : Hid (∀ V, (Below bs wx V ∧ Kp wx V) → V.cell? ⟨p, 0, none⟩ = some (.int .i64 (kd : Int)) ∧ V.cell? ⟨p, 1, none⟩ = some (.string so) ∧ V.cell? ⟨p, 2, none⟩ = some (.string st) ∧ V.cell? ⟨p, 3, none⟩ = some (.slice a m cap)) := fun V hV => HBx.out V (HX17.out.trans hV.1)
        have HBd : Hid (Below bs wx wx.drew ∧ Kp wx wx.drew) := ⟨(Below.refl _ _).drew, Kp.of ((Below.refl _ _).drew)⟩
        have hwm : IntKind.u8.wrap (m : Int) = (m : Int) := by rw [IntKind.wrap_u8]; omega
        have pbb : Below wx.heap.size wx (wx.alloc (.cells #[.int .u8 (m : Int)] 5)).drew := ((Below.refl _ _).alloc (Nat.le_refl _) _).drew
        have pb9 : Hid (Below bs wx (wx.alloc (.cells #[.int .u8 (m : Int)] 5)).drew ∧ Kp wx (wx.alloc (.cells #[.int .u8 (m : Int)] 5)).drew) := ⟨pbb.mono hzx, Kp.of pbb⟩
        have HO9 : Hid (OwnB (wx.alloc (.cells #[.int .u8 (m : Int)] 5)).drew bs (.slice va vl vc) lk) := ownsRow_later HO6i.out pbb
        have HOx : Hid (OwnB wx.drew bs (.slice va vl vc) lk) := ownsRow_later HO6i.out ((Below.refl _ _).drew)
        have HS9 : Hid (SrcB (wx.alloc (.cells #[.int .u8 (m : Int)] 5)).drew wx.heap.size [M.b1 (m : Int)]) := (srcB_num wx m hm256).later ((Below.refl _ _).drew)
        have HZ9 : Hid (bs ≤ (wx.alloc (.cells #[.int .u8 (m : Int)] 5)).drew.heap.size) := Nat.le_trans hzx pbb.size
        have HZx : Hid (bs ≤ wx.drew.heap.size) := hzx
        have HLt : Hid (∀ k, (Value.slice va vl vc).ownBlock = some k → k < wx.heap.size) := ownB_lt HO6i.out
        obtain ⟨ml, hml⟩ : ∃ ml, ml = x.two.length + 1 := ⟨_, rfl⟩
        have hml5 : ml ≤ 256 := by rw [hml, ← HL2.out]; omega
        have HPl : Hid ((M.pT x.two).length = ml) := by unfold Hid M.pT; rw [List.length_cons, hml]
        have HTx : Hid (∀ V, Calls Tryz.prog 65 #[.string st] V fun e w' => ∃ a c, e = .returned (.slice (some ⟨a, 0, none⟩) ml c) ∧ SrcB w' a (M.pT x.two) ∧ V.heap.size ≤ a ∧ Below V.heap.size V w') := fun V => by
          rw [HSt0.out, hml]; exact texted_any x.two V (by rw [← HL2.out]; exact hL2s)
        clear pbb hml
        go_wp2_with fail
        refine wp_region_till 11 (fun V => V.cell? ⟨p, 0, none⟩ = some (.int .i64 (kd : Int)) ∧ V.cell? ⟨p, 1, none⟩ = some (.string so) ∧ V.cell? ⟨p, 2, none⟩ = some (.string st) ∧ V.cell? ⟨p, 3, none⟩ = some (.slice a m cap)) (by kernel_rfl) (HSV.out _ HBd.out) (fun hHeld => ?_)
        refine till_go 0 (v := .slice va vl vc) rfl (by decide) (by kernel_rfl) (by kernel_rfl) (by kernel_rfl) (fun _ _ _ h => h) (Or.inl ⟨by rfl, fun V _ => (by go_simp)⟩) hHeld ?_
        try simp only [Act.put]
        refine till_go 1 (v := .pointer (some ⟨p, 2, none⟩)) rfl (by decide) (by kernel_rfl) (by kernel_rfl) (by kernel_rfl) (fun _ _ _ h => h) (Or.inl ⟨by rfl, fun V _ => (by go_simp)⟩) hHeld ?_
        try simp only [Act.put]
        refine till_take 2 (v := .string st) rfl (by decide) (by kernel_rfl) (by kernel_rfl) (by kernel_rfl) (by kernel_rfl) (by kernel_rfl) (fun _ _ _ h => h) (Or.inl ⟨by rfl, fun V hV => (by obtain ⟨v0, v1, v2, v3⟩ := hV; go_simp)⟩) hHeld ?_
        try simp only [Act.put]
        refine till_go 5 (v := .pointer (some ⟨p, 3, none⟩)) rfl (by decide) (by kernel_rfl) (by kernel_rfl) (by kernel_rfl) (fun _ _ _ h => h) (Or.inl ⟨by rfl, fun V _ => (by go_simp)⟩) hHeld ?_
        try simp only [Act.put]
        refine till_take 6 (v := .slice a m cap) rfl (by decide) (by kernel_rfl) (by kernel_rfl) (by kernel_rfl) (by kernel_rfl) (by kernel_rfl) (fun _ _ _ h => h) (Or.inl ⟨by rfl, fun V hV => (by obtain ⟨v0, v1, v2, v3⟩ := hV; go_simp)⟩) hHeld ?_
        try simp only [Act.put]
        refine till_go 7 (v := .int .i64 (m : Int)) rfl (by decide) (by kernel_rfl) (by kernel_rfl) (by kernel_rfl) (fun _ _ _ h => h) (Or.inl ⟨by rfl, fun V _ => (by go_simp)⟩) hHeld ?_
        try simp only [Act.put]
        refine till_go 8 (v := .int .u8 (m : Int)) rfl (by decide) (by kernel_rfl) (by kernel_rfl) (by kernel_rfl) (fun _ _ _ h => h) (Or.inl ⟨by rfl, fun V _ => (by go_simp)⟩) hHeld ?_
        try simp only [Act.put]
        refine till_two 3 9 rfl rfl (by decide) (by decide) (by kernel_rfl) (fun K hK => ?h8A) (fun K hK => ?h8B)
        case h8A =>
          go_simp
          refine (HTx.out _).mono ?_
          rintro e w7 ⟨ta, tc, rfl, ts, _, tb⟩
          have tb : Below wx.drew.heap.size wx.drew w7 := tb
          have R7 : Hid (Below bs wx w7 ∧ Kp wx w7) := ⟨HBd.out.1.trans (tb.mono HZx.out), HBd.out.2.trans (Kp.of tb)⟩
          have HO7 : Hid (OwnB w7 bs (.slice va vl vc) lk) := ownsRow_later HOx.out tb
          have HT7 : Hid (SrcB w7 ta (M.pT x.two)) := ts
          have hz7 : Hid (bs ≤ w7.heap.size) := Nat.le_trans HZx.out tb.size
          have hlt7 : Hid (∀ k, (Value.slice va vl vc).ownBlock = some k → k < w7.heap.size) := ownB_lt HO7.out
          refine hK.out _ _ (HSV.out _ R7.out) (fun hHeld => ?_)
          clear hK K ts tb
          refine till_two 4 9 rfl rfl (by decide) (by decide) (by kernel_rfl) (fun K hK => ?h8C) (fun K hK => ?h8D)
          case h8C =>
            refine step_bys rfl _ _ rfl bs _ lk rfl HO7.out ta ml tc (M.pT x.two) rfl HPl.out HT7.out (by omega) hz7.out ?_
            intro v8 w8 o8 g8
            obtain ⟨gb8, gk8⟩ := ownB_grown HO7.out g8 hz7.out
            have R8 : Hid (Below bs wx w8 ∧ Kp wx w8) := ⟨R7.out.1.trans gb8, R7.out.2.trans gk8⟩
            have HO8 : Hid (OwnB w8 bs v8 (lk ++ M.pT x.two)) := o8
            have HG8 : Hid (w7.grownBy w8 (Value.slice va vl vc).ownBlock) := g8
            obtain ⟨qa, qn, qc, rfl⟩ := ownB_slice o8
            have hz8 : Hid (bs ≤ w8.heap.size) := Nat.le_trans hz7.out gb8.size
            refine hK.out _ _ (HSV.out _ R8.out) (fun hHeld => ?_)
            clear hK K o8 g8 gb8 gk8
            refine till_step 9 rfl (by decide) (by kernel_rfl) (fun K hK => ?_)
            go_simp
            have ta8 : Below w8.heap.size w8 (w8.alloc (.cells #[.int .u8 (m : Int)] 5)) := (Below.refl _ _).alloc (Nat.le_refl _) _
            have R5 : Hid (Below bs wx (w8.alloc (.cells #[.int .u8 (m : Int)] 5)) ∧ Kp wx (w8.alloc (.cells #[.int .u8 (m : Int)] 5))) := ⟨R8.out.1.trans (ta8.mono hz8.out), R8.out.2.trans (Kp.of ta8)⟩
            have HO5 : Hid (OwnB (w8.alloc (.cells #[.int .u8 (m : Int)] 5)) bs (.slice qa qn qc) (lk ++ M.pT x.two)) := ownsRow_later HO8.out ta8
            have HS5 : Hid (SrcB (w8.alloc (.cells #[.int .u8 (m : Int)] 5)) w8.heap.size [M.b1 (m : Int)]) := srcB_num w8 m hm256
            have hz5 : Hid (bs ≤ (w8.alloc (.cells #[.int .u8 (m : Int)] 5)).heap.size) := Nat.le_trans hz8.out ta8.size
            refine hK.out _ _ (HSV.out _ R5.out) (fun hHeld => ?_)
            clear hK K ta8
            refine till_step 10 rfl (by decide) (by kernel_rfl) (fun K hK => ?_)
            refine step_bys rfl _ _ rfl bs _ (lk ++ M.pT x.two) rfl HO5.out w8.heap.size 1 1 [M.b1 (m : Int)] rfl rfl HS5.out (by rw [List.length_append, HPl.out]; omega) hz5.out ?_
            intro v6 w6 o6 g6
            obtain ⟨gb6, gk6⟩ := ownB_grown HO5.out g6 hz5.out
            have R6 : Hid (Below bs wx w6 ∧ Kp wx w6) := ⟨R5.out.1.trans gb6, R5.out.2.trans gk6⟩
            have HO6 : Hid (OwnB w6 bs v6 ((lk ++ M.pT x.two) ++ [M.b1 (m : Int)])) := o6
            refine hK.out _ _ (HSV.out _ R6.out) (fun hHeld => ?_)
            clear hK K o6 g6 gb6 gk6
            refine till_last rfl (by kernel_rfl) (by kernel_rfl) (fun K hK => ?_) _
            go_simp
            refine hK.out _ _ ?_
            clear hK K
            obtain ⟨l4, hl4⟩ : ∃ l4, l4 = (([M.b1 (kd : Int)] ++ M.pT x.one) ++ M.pT x.two) ++ [M.b1 (m : Int)] := ⟨_, rfl⟩
            have HL4 : Hid (l4 = (([M.b1 (kd : Int)] ++ M.pT x.one) ++ M.pT x.two) ++ [M.b1 (m : Int)]) := hl4
            have hl45 : l4.length ≤ 600 := by have e1 := HL1.out; have e2 := HL2.out; rw [hl4]; simp [M.pT]; omega
            have o4 := HO6.out
            rw [Hlk.out, ← hl4] at o4
            have HO40 : Aside (OwnB w6 bs v6 (l4 ++ (x.chs.take 0).flatMap M.pC)) := by unfold Aside; simpa using o4
            have bX6 : Below bs X1 w6 := HX17.out.trans R6.out.1
            clear o4 hl4 HO6
            go_wp2_with fail
            go_loopg [6, 7] m (fun g v i wr => ∃ k : Nat, k + g = m ∧ i = .int .i64 k ∧ Aside (OwnB wr bs v (l4 ++ (x.chs.take k).flatMap M.pC)) ∧ Aside (∀ c ∈ x.chs.take k, M.okC c) ∧ Below bs X1 wr)
            case atStart => exact ⟨0, by omega, rfl, HO40, by unfold Aside; simp, bX6⟩
            case round =>
              obtain ⟨k, hk, rfl, HOk, HAll, hbX⟩ := hrel
              obtain ⟨va, vl, vc, hv⟩ := ownB_slice HOk.out
              subst hv
              obtain ⟨_, _, _, j3⟩ := HBx.out wr hbX
              have hzr : bs ≤ wr.heap.size := by have := hbX.size; rw [HX1s.out] at this; exact this
              by_cases hkm : k < m
              · have hki : (k : Int) < (m : Int) := by omega
                have hkn : k < x.chs.length := by rw [HLn.out]; exact hkm
                obtain ⟨ab, ao, rfl, hab, hc⟩ : ∃ ab ao, a = some ⟨ab, ao, none⟩ ∧ ab < wr.heap.size ∧ (wr.cell? ⟨ab, ao + k * 3, none⟩ = some (.int .i64 (x.chs.getD k (0, 0, 0)).1) ∧ wr.cell? ⟨ab, ao + k * 3 + 1, none⟩ = some (.int .i64 (x.chs.getD k (0, 0, 0)).2.1) ∧ wr.cell? ⟨ab, ao + k * 3 + 2, none⟩ = some (.int .i64 (x.chs.getD k (0, 0, 0)).2.2)) := by
                  rcases (HRc.out wr hbX).cases with ⟨h0, _⟩ | ⟨ab, ao, e, _, _, hB, hc⟩
                  · omega
                  · exact ⟨ab, ao, e, hB, hc k hkm⟩
                have hmem : x.chs.getD k (0, 0, 0) ∈ x.chs := getD_memA hkn
                have hst := fmA_take M.pC (0, 0, 0) x.chs k hkn
                have hrg := HRg.out _ hmem
                obtain ⟨c, hcc⟩ : ∃ c, c = x.chs.getD k (0, 0, 0) := ⟨_, rfl⟩
                rw [← hcc] at hc hst hrg hmem
                have hck : x.chs[k] = c := by rw [hcc]; simp [List.getD, hkn]
                obtain ⟨x0, x1, x2⟩ := c
                obtain ⟨ck, c1, c2⟩ := hc
                simp only at ck c1 c2
                obtain ⟨hi1, hi2⟩ := hrg
                have hi1 : M.inI x1 := hi1
                have hi2 : M.inI x2 := hi2
                unfold M.inI at hi1 hi2
                have HMem : Hid ((x0, x1, x2) ∈ x.chs) := hmem
                obtain ⟨q, hq⟩ : ∃ q, q = wr.heap.size := ⟨_, rfl⟩
                obtain ⟨X, hX⟩ : ∃ X, X = wr.alloc (.cells #[.int .i64 x0, .int .i64 x1, .int .i64 x2] 69) := ⟨_, rfl⟩
                have bX : Below wr.heap.size wr X := by rw [hX]; exact (Below.refl _ _).alloc (Nat.le_refl _) _
                have hX0 : X.heap[q]? = some (.cells #[.int .i64 x0, .int .i64 x1, .int .i64 x2] 69 (0, 0)) := by rw [hX, hq]; exact heap_alloc_new _ _
                have HXc : Hid (∀ V, Kp X V → V.cell? ⟨q, 0, none⟩ = some (.int .i64 x0) ∧ V.cell? ⟨q, 1, none⟩ = some (.int .i64 x1) ∧ V.cell? ⟨q, 2, none⟩ = some (.int .i64 x2)) := fun V hV => by
                  have blk := hV _ _ _ (by decide) (by decide) hX0
                  exact ⟨by rw [cell_of_row _ _ _ _ _ _ blk]; rfl, by rw [cell_of_row _ _ _ _ _ _ blk]; rfl, by rw [cell_of_row _ _ _ _ _ _ blk]; rfl⟩
                have bqX : Below bs wr X := bX.mono hzr
                have HX : Hid (X = wr.alloc (.cells #[.int .i64 x0, .int .i64 x1, .int .i64 x2] 69)) := hX
                have HQ : Aside (q = wr.heap.size) := hq
                have bZX : Below w.heap.size w X := HBw.out X (hbX.trans bqX)
                have HZX : Hid (Below w.heap.size w X) := bZX
                have HOX : Hid (OwnB X bs (.slice va vl vc) (l4 ++ (x.chs.take k).flatMap M.pC)) := ownsRow_later HOk.out bX
                obtain ⟨t0, t1, t2⟩ := HXc.out X (Kp.refl _)
                rw [hX] at t0 t1 t2
                have HHck : Hid (x.chs[k] = (x0, x1, x2)) := hck
                have hzX : bs ≤ X.heap.size := Nat.le_trans hzr bX.size
                clear hcc hmem hX hq bX hX0 hck bZX
                by_cases g0 : 0 ≤ x0 ∧ x0 ≤ 255
                case neg =>
                  have HBad : Hid (sB = ⟨#[]⟩ ∧ F = 3) := HBadA.out (fun h => g0 (by have := h.2.2.2.2 _ HMem.out; obtain ⟨z1, z2, _⟩ := this; simp only at z1 z2; omega))
                  have KW : Hid (∀ V, Calls Tryz.prog 64 #[.int .i64 x0, .int .i64 0, .int .i64 255] V fun e w' => e = .returned (.bool false) ∧ w' = V) := fun V => within_no x0 0 255 V (by omega)
                  clear g0
                  go_wp2_with (go_at_call 64; refine (KW.out _).mono ?_; rintro e w2 ⟨rfl, rfl⟩)
                  rw [← HX.out]
                  go_ret2
                  exact ⟨by rw [HBad.out.1, HBad.out.2]; rfl, HZX.out⟩
                have KW0 : Hid (∀ V, Calls Tryz.prog 64 #[.int .i64 x0, .int .i64 0, .int .i64 255] V fun e w' => e = .returned (.bool true) ∧ w' = V) := fun V => within_yes x0 0 255 V g0.1 g0.2
                by_cases g1 : -1 ≤ x1 ∧ x1 ≤ 65534
                case neg =>
                  have HBad : Hid (sB = ⟨#[]⟩ ∧ F = 3) := HBadA.out (fun h => g1 (by have := h.2.2.2.2 _ HMem.out; obtain ⟨_, _, z1, z2, _⟩ := this; simp only at z1 z2; omega))
                  have KW : Hid (∀ V, Calls Tryz.prog 64 #[.int .i64 x1, .int .i64 (-1), .int .i64 65534] V fun e w' => e = .returned (.bool false) ∧ w' = V) := fun V => within_no x1 (-1) 65534 V (by omega)
                  clear g0 g1
                  go_wp2_with fail
                  refine (KW0.out _).mono ?_
                  rintro e w2 ⟨rfl, rfl⟩
                  go_wp2_with fail
                  refine (KW.out _).mono ?_
                  rintro e w2 ⟨rfl, rfl⟩
                  go_wp2
                  rw [← HX.out]
                  go_ret2
                  exact ⟨by rw [HBad.out.1, HBad.out.2]; rfl, HZX.out⟩
                have KW1 : Hid (∀ V, Calls Tryz.prog 64 #[.int .i64 x1, .int .i64 (-1), .int .i64 65534] V fun e w' => e = .returned (.bool true) ∧ w' = V) := fun V => within_yes x1 (-1) 65534 V g1.1 g1.2
                by_cases g2 : -1 ≤ x2 ∧ x2 ≤ 65534
                case neg =>
                  have HBad : Hid (sB = ⟨#[]⟩ ∧ F = 3) := HBadA.out (fun h => g2 (by have := h.2.2.2.2 _ HMem.out; obtain ⟨_, _, _, _, z1, z2⟩ := this; simp only at z1 z2; omega))
                  have KW : Hid (∀ V, Calls Tryz.prog 64 #[.int .i64 x2, .int .i64 (-1), .int .i64 65534] V fun e w' => e = .returned (.bool false) ∧ w' = V) := fun V => within_no x2 (-1) 65534 V (by omega)
                  clear g0 g1 g2
                  go_wp2_with fail
                  refine (KW0.out _).mono ?_
                  rintro e w2 ⟨rfl, rfl⟩
                  go_wp2_with fail
                  refine (KW1.out _).mono ?_
                  rintro e w2 ⟨rfl, rfl⟩
                  go_wp2_with fail
                  refine (KW.out _).mono ?_
                  rintro e w2 ⟨rfl, rfl⟩
                  go_wp2
                  rw [← HX.out]
                  go_ret2
                  exact ⟨by rw [HBad.out.1, HBad.out.2]; rfl, HZX.out⟩
                have KW2 : Hid (∀ V, Calls Tryz.prog 64 #[.int .i64 x2, .int .i64 (-1), .int .i64 65534] V fun e w' => e = .returned (.bool true) ∧ w' = V) := fun V => within_yes x2 (-1) 65534 V g2.1 g2.2
                obtain ⟨e0, rfl⟩ : ∃ e0 : Nat, x0 = (e0 : Int) := ⟨x0.toNat, by omega⟩
                obtain ⟨n1, hn1e⟩ : ∃ n1 : Nat, x1 + 1 = (n1 : Int) := ⟨(x1 + 1).toNat, by omega⟩
                obtain ⟨n2, hn2e⟩ : ∃ n2 : Nat, x2 + 1 = (n2 : Int) := ⟨(x2 + 1).toNat, by omega⟩
                have he0 : e0 < 256 := by omega
                have hn1 : n1 < 65536 := by omega
                have hn2 : n2 < 65536 := by omega
                obtain ⟨li, hli⟩ : ∃ li, li = l4 ++ (x.chs.take k).flatMap M.pC := ⟨_, rfl⟩
                have hli5 : li.length ≤ 5000 := by
                  have h5 : ∀ l : List M.Chg, (l.flatMap M.pC).length = 5 * l.length := by
                    intro l
                    induction l with
                    | nil => rfl
                    | cons c t ih => rw [List.flatMap_cons, List.length_append, ih]; simp [M.pC, M.b2]; omega
                  rw [hli, List.length_append, h5, List.length_take]
                  omega
                rw [← hli] at HOX
                have HSt : Hid ((((li ++ [M.b1 (e0 : Int)]) ++ M.b2 (n1 : Int)) ++ M.b2 (n2 : Int)) = l4 ++ (x.chs.take (k + 1)).flatMap M.pC) := by
                  unfold Hid
                  rw [hst, hli]
                  unfold M.pC
                  simp only
                  rw [hn1e, hn2e]
                  simp
                have HOkn : Aside (∀ c ∈ x.chs.take (k + 1), M.okC c) := by
                  intro c hc
                  rw [List.take_succ_eq_append_getElem hkn] at hc
                  rcases List.mem_append.1 hc with hc | hc
                  · exact HAll.out c hc
                  · rw [List.mem_singleton.1 hc, HHck.out]
                    refine ⟨?_, ?_, ?_, ?_, ?_, ?_⟩ <;> (simp only; omega)
                clear hst hli g0 g1 g2
                have hk2 : wr.heap.size ≤ X.heap.size := by rw [HX.out]; simp
                go_wp2_with fail
                refine (KW0.out _).mono ?_
                rintro e w2 ⟨rfl, rfl⟩
                go_wp2_with fail
                refine (KW1.out _).mono ?_
                rintro e w2 ⟨rfl, rfl⟩
                go_wp2_with fail
                refine (KW2.out _).mono ?_
                rintro e w2 ⟨rfl, rfl⟩
                clear t0 t1 t2 KW0 KW1 KW2 ck c1 c2
                obtain ⟨wx, hwx⟩ : ∃ wx, wx = X := ⟨_, rfl⟩
                have HSV : Hid (∀ V, (Below bs wx V ∧ Kp wx V) → V.cell? ⟨q, 0, none⟩ = some (.int .i64 (e0 : Int)) ∧ V.cell? ⟨q, 1, none⟩ = some (.int .i64 x1) ∧ V.cell? ⟨q, 2, none⟩ = some (.int .i64 x2)) := fun V hV => HXc.out V (by rw [← hwx]; exact hV.2)
                have w8u : IntKind.u8.wrap (e0 : Int) = (e0 : Int) := by rw [IntKind.wrap_u8]; omega
                have wn1 : IntKind.i64.wrap (n1 : Int) = (n1 : Int) := by rw [IntKind.wrap_i64]; omega
                have wn2 : IntKind.i64.wrap (n2 : Int) = (n2 : Int) := by rw [IntKind.wrap_i64]; omega
                have HXw : Hid (wx = wr.alloc (.cells #[.int .i64 (e0 : Int), .int .i64 x1, .int .i64 x2] 69)) := by rw [hwx]; exact HX.out
                subst hwx
                have HBd : Hid (Below bs wx wx.drew ∧ Kp wx wx.drew) := ⟨(Below.refl _ _).drew, Kp.of ((Below.refl _ _).drew)⟩
                have pbb : Below wx.heap.size wx (wx.alloc (.cells #[.int .u8 (e0 : Int)] 5)).drew := ((Below.refl _ _).alloc (Nat.le_refl _) _).drew
                have pb9 : Hid (Below bs wx (wx.alloc (.cells #[.int .u8 (e0 : Int)] 5)).drew ∧ Kp wx (wx.alloc (.cells #[.int .u8 (e0 : Int)] 5)).drew) := ⟨pbb.mono hzX, Kp.of pbb⟩
                have HO9 : Hid (OwnB (wx.alloc (.cells #[.int .u8 (e0 : Int)] 5)).drew bs (.slice va vl vc) li) := ownsRow_later HOX.out pbb
                have HS9 : Hid (SrcB (wx.alloc (.cells #[.int .u8 (e0 : Int)] 5)).drew wx.heap.size [M.b1 (e0 : Int)]) := (srcB_num wx e0 he0).later ((Below.refl _ _).drew)
                have HZ9 : Hid (bs ≤ (wx.alloc (.cells #[.int .u8 (e0 : Int)] 5)).drew.heap.size) := Nat.le_trans hzX pbb.size
                clear pbb
                go_wp2_with fail
                rw [← HXw.out, ← HQ.out]
                refine wp_region_till 16 (fun V => V.cell? ⟨q, 0, none⟩ = some (.int .i64 (e0 : Int)) ∧ V.cell? ⟨q, 1, none⟩ = some (.int .i64 x1) ∧ V.cell? ⟨q, 2, none⟩ = some (.int .i64 x2)) (by kernel_rfl) (HSV.out _ HBd.out) (fun hHeld => ?_)
                refine till_go 0 (v := .slice va vl vc) rfl (by decide) (by kernel_rfl) (by kernel_rfl) (by kernel_rfl) (fun _ _ _ h => h) (Or.inl ⟨by rfl, fun V _ => (by go_simp)⟩) hHeld ?_
                try simp only [Act.put]
                refine till_go 1 (v := .pointer (some ⟨q, 0, none⟩)) rfl (by decide) (by kernel_rfl) (by kernel_rfl) (by kernel_rfl) (fun _ _ _ h => h) (Or.inl ⟨by rfl, fun V _ => (by go_simp)⟩) hHeld ?_
                try simp only [Act.put]
                refine till_take 2 (v := .int .i64 (e0 : Int)) rfl (by decide) (by kernel_rfl) (by kernel_rfl) (by kernel_rfl) (by kernel_rfl) (by kernel_rfl) (fun _ _ _ h => h) (Or.inl ⟨by rfl, fun V hV => (by obtain ⟨v0, v1, v2⟩ := hV; go_simp)⟩) hHeld ?_
                try simp only [Act.put]
                refine till_go 3 (v := .int .u8 (e0 : Int)) rfl (by decide) (by kernel_rfl) (by kernel_rfl) (by kernel_rfl) (fun _ _ _ h => h) (Or.inl ⟨by rfl, fun V _ => (by go_simp)⟩) hHeld ?_
                try simp only [Act.put]
                refine till_go 6 (v := .pointer (some ⟨q, 1, none⟩)) rfl (by decide) (by kernel_rfl) (by kernel_rfl) (by kernel_rfl) (fun _ _ _ h => h) (Or.inl ⟨by rfl, fun V _ => (by go_simp)⟩) hHeld ?_
                try simp only [Act.put]
                refine till_take 7 (v := .int .i64 x1) rfl (by decide) (by kernel_rfl) (by kernel_rfl) (by kernel_rfl) (by kernel_rfl) (by kernel_rfl) (fun _ _ _ h => h) (Or.inl ⟨by rfl, fun V hV => (by obtain ⟨v0, v1, v2⟩ := hV; go_simp)⟩) hHeld ?_
                try simp only [Act.put]
                refine till_go 8 (v := .int .i64 (n1 : Int)) rfl (by decide) (by kernel_rfl) (by kernel_rfl) (by kernel_rfl) (fun _ _ _ h => h) (Or.inl ⟨by rfl, fun V _ => (by go_simp)⟩) hHeld ?_
                try simp only [Act.put]
                refine till_go 11 (v := .pointer (some ⟨q, 2, none⟩)) rfl (by decide) (by kernel_rfl) (by kernel_rfl) (by kernel_rfl) (fun _ _ _ h => h) (Or.inl ⟨by rfl, fun V _ => (by go_simp)⟩) hHeld ?_
                try simp only [Act.put]
                refine till_take 12 (v := .int .i64 x2) rfl (by decide) (by kernel_rfl) (by kernel_rfl) (by kernel_rfl) (by kernel_rfl) (by kernel_rfl) (fun _ _ _ h => h) (Or.inl ⟨by rfl, fun V hV => (by obtain ⟨v0, v1, v2⟩ := hV; go_simp)⟩) hHeld ?_
                try simp only [Act.put]
                refine till_go 13 (v := .int .i64 (n2 : Int)) rfl (by decide) (by kernel_rfl) (by kernel_rfl) (by kernel_rfl) (fun _ _ _ h => h) (Or.inl ⟨by rfl, fun V _ => (by go_simp)⟩) hHeld ?_
                try simp only [Act.put]
                refine till_step 4 rfl (by decide) (by kernel_rfl) (fun K hK => ?_)
                go_simp
                refine hK.out _ _ (HSV.out _ pb9.out) (fun hHeld => ?_)
                clear hK K
                refine till_step 5 rfl (by decide) (by kernel_rfl) (fun K hK => ?_)
                refine step_bys rfl _ _ rfl bs _ li rfl HO9.out wx.heap.size 1 1 [M.b1 (e0 : Int)] rfl rfl HS9.out (by simp; omega) HZ9.out ?_
                intro va5 wa5 o8 g8
                obtain ⟨gb8, gk8⟩ := ownB_grown HO9.out g8 HZ9.out
                have Rwa5 : Hid (Below bs wx wa5 ∧ Kp wx wa5) := ⟨pb9.out.1.trans gb8, pb9.out.2.trans gk8⟩
                have HOwa5 : Hid (OwnB wa5 bs va5 (li ++ [M.b1 (e0 : Int)])) := o8
                obtain ⟨va5a, va5n, va5c, rfl⟩ := ownB_slice o8
                have hzwa5 : Hid (bs ≤ wa5.heap.size) := Nat.le_trans HZ9.out gb8.size
                refine hK.out _ _ (HSV.out _ Rwa5.out) (fun hHeld => ?_)
                clear hK K o8 g8 gb8 gk8
                refine till_step 9 rfl (by decide) (by kernel_rfl) (fun K hK => ?_)
                go_simp
                refine (twoB_any n1 wa5 hn1).mono ?_
                rintro e wa6 ⟨ta6, tc6, rfl, ts, _, tb⟩
                have Rwa6 : Hid (Below bs wx wa6 ∧ Kp wx wa6) := ⟨Rwa5.out.1.trans (tb.mono hzwa5.out), Rwa5.out.2.trans (Kp.of tb)⟩
                have HOwa6 : Hid (OwnB wa6 bs (.slice va5a va5n va5c) (li ++ [M.b1 (e0 : Int)])) := ownsRow_later HOwa5.out tb
                have HSwa6 : Hid (SrcB wa6 ta6 (M.b2 (n1 : Int))) := ts
                have hzwa6 : Hid (bs ≤ wa6.heap.size) := Nat.le_trans hzwa5.out tb.size
                refine hK.out _ _ (HSV.out _ Rwa6.out) (fun hHeld => ?_)
                clear hK K ts tb
                refine till_step 10 rfl (by decide) (by kernel_rfl) (fun K hK => ?_)
                refine step_bys rfl _ _ rfl bs _ (li ++ [M.b1 (e0 : Int)]) rfl HOwa6.out ta6 2 tc6 (M.b2 (n1 : Int)) rfl rfl HSwa6.out (by simp; omega) hzwa6.out ?_
                intro va7 wa7 o8 g8
                obtain ⟨gb8, gk8⟩ := ownB_grown HOwa6.out g8 hzwa6.out
                have Rwa7 : Hid (Below bs wx wa7 ∧ Kp wx wa7) := ⟨Rwa6.out.1.trans gb8, Rwa6.out.2.trans gk8⟩
                have HOwa7 : Hid (OwnB wa7 bs va7 ((li ++ [M.b1 (e0 : Int)]) ++ (M.b2 (n1 : Int)))) := o8
                obtain ⟨va7a, va7n, va7c, rfl⟩ := ownB_slice o8
                have hzwa7 : Hid (bs ≤ wa7.heap.size) := Nat.le_trans hzwa6.out gb8.size
                refine hK.out _ _ (HSV.out _ Rwa7.out) (fun hHeld => ?_)
                clear hK K o8 g8 gb8 gk8
                refine till_step 14 rfl (by decide) (by kernel_rfl) (fun K hK => ?_)
                go_simp
                refine (twoB_any n2 wa7 hn2).mono ?_
                rintro e wa8 ⟨ta8, tc8, rfl, ts, _, tb⟩
                have Rwa8 : Hid (Below bs wx wa8 ∧ Kp wx wa8) := ⟨Rwa7.out.1.trans (tb.mono hzwa7.out), Rwa7.out.2.trans (Kp.of tb)⟩
                have HOwa8 : Hid (OwnB wa8 bs (.slice va7a va7n va7c) ((li ++ [M.b1 (e0 : Int)]) ++ M.b2 (n1 : Int))) := ownsRow_later HOwa7.out tb
                have HSwa8 : Hid (SrcB wa8 ta8 (M.b2 (n2 : Int))) := ts
                have hzwa8 : Hid (bs ≤ wa8.heap.size) := Nat.le_trans hzwa7.out tb.size
                refine hK.out _ _ (HSV.out _ Rwa8.out) (fun hHeld => ?_)
                clear hK K ts tb
                refine till_step 15 rfl (by decide) (by kernel_rfl) (fun K hK => ?_)
                refine step_bys rfl _ _ rfl bs _ ((li ++ [M.b1 (e0 : Int)]) ++ M.b2 (n1 : Int)) rfl HOwa8.out ta8 2 tc8 (M.b2 (n2 : Int)) rfl rfl HSwa8.out (by simp [M.b2]; omega) hzwa8.out ?_
                intro v6 w6 o6 g6
                obtain ⟨gb6, gk6⟩ := ownB_grown HOwa8.out g6 hzwa8.out
                have R6 : Hid (Below bs wx w6 ∧ Kp wx w6) := ⟨Rwa8.out.1.trans gb6, Rwa8.out.2.trans gk6⟩
                rw [HSt.out] at o6
                have HO6 : Aside (OwnB w6 bs v6 (l4 ++ (x.chs.take (k + 1)).flatMap M.pC)) := o6
                refine hK.out _ _ (HSV.out _ R6.out) (fun hHeld => ?_)
                clear hK K o6 g6 gb6 gk6
                refine till_last rfl (by kernel_rfl) (by kernel_rfl) (fun K hK => ?_) _
                go_simp
                refine hK.out _ _ ?_
                clear hK K
                go_wp2
                go_roundg (m - k - 1)
                case measure => omega
                case rel => exact ⟨k + 1, by omega, by go_num, HO6, HOkn, hbX.trans (bqX.trans R6.out.1)⟩
              · obtain rfl : k = m := by omega
                have hkk2 : decide ((k : Int) < (k : Int)) = false := by simp
                have e1 : x.chs.take k = x.chs := List.take_of_length_le (by rw [HLn.out]; exact Nat.le_refl _)
                rw [e1] at HOk HAll
                have hgood := HGoodA.out HAll.out
                have hfin : l4 ++ x.chs.flatMap M.pC = M.pA x := by
                  rw [HL4.out]
                  unfold M.pA M.pL
                  rw [HLn.out, ← HKd.out]
                  simp
                have ho := HOk.out
                rw [hfin] at ho
                have hcv := ownB_conv ho
                rw [← hgood.1] at hcv
                have hF := hgood.2
                have BZ := HBw.out wr hbX
                subst hF
                clear e1 hfin ho hgood
                go_wp2
                go_ret2
                exact ⟨rfl, BZ⟩
          case h8D =>
            go_simp
            have ta7 : Below w7.heap.size w7 (w7.alloc (.cells #[.int .u8 (m : Int)] 5)) := (Below.refl _ _).alloc (Nat.le_refl _) _
            have R5 : Hid (Below bs wx (w7.alloc (.cells #[.int .u8 (m : Int)] 5)) ∧ Kp wx (w7.alloc (.cells #[.int .u8 (m : Int)] 5))) := ⟨R7.out.1.trans (ta7.mono hz7.out), R7.out.2.trans (Kp.of ta7)⟩
            have HO5 : Hid (OwnB (w7.alloc (.cells #[.int .u8 (m : Int)] 5)) bs (.slice va vl vc) lk) := ownsRow_later HO7.out ta7
            have HT5 : Hid (SrcB (w7.alloc (.cells #[.int .u8 (m : Int)] 5)) ta (M.pT x.two)) := HT7.out.later ta7
            have HS5 : Hid (SrcB (w7.alloc (.cells #[.int .u8 (m : Int)] 5)) w7.heap.size [M.b1 (m : Int)]) := srcB_num w7 m hm256
            have hz5 : Hid (bs ≤ (w7.alloc (.cells #[.int .u8 (m : Int)] 5)).heap.size) := Nat.le_trans hz7.out ta7.size
            refine hK.out _ _ (HSV.out _ R5.out) (fun hHeld => ?_)
            clear hK K ta7
            refine till_step 4 rfl (by decide) (by kernel_rfl) (fun K hK => ?_)
            refine step_bys rfl _ _ rfl bs _ lk rfl HO5.out ta ml tc (M.pT x.two) rfl HPl.out HT5.out (by omega) hz5.out ?_
            intro v8 w8 o8 g8
            obtain ⟨gb8, gk8⟩ := ownB_grown HO5.out g8 hz5.out
            have R8 : Hid (Below bs wx w8 ∧ Kp wx w8) := ⟨R5.out.1.trans gb8, R5.out.2.trans gk8⟩
            have HO8 : Hid (OwnB w8 bs v8 (lk ++ M.pT x.two)) := o8
            have HG8 : Hid ((w7.alloc (.cells #[.int .u8 (m : Int)] 5)).grownBy w8 (Value.slice va vl vc).ownBlock) := g8
            obtain ⟨qa, qn, qc, rfl⟩ := ownB_slice o8
            have hz8 : Hid (bs ≤ w8.heap.size) := Nat.le_trans hz5.out gb8.size
            refine hK.out _ _ (HSV.out _ R8.out) (fun hHeld => ?_)
            clear hK K o8 g8 gb8 gk8
            have HS8 : Hid (SrcB w8 w7.heap.size [M.b1 (m : Int)]) := HS5.out.grown HG8.out (fun k e => by have := hlt7.out k e; omega)
            refine till_step 10 rfl (by decide) (by kernel_rfl) (fun K hK => ?_)
            refine step_bys rfl _ _ rfl bs _ (lk ++ M.pT x.two) rfl HO8.out w7.heap.size 1 1 [M.b1 (m : Int)] rfl rfl HS8.out (by rw [List.length_append, HPl.out]; omega) hz8.out ?_
            intro v6 w6 o6 g6
            obtain ⟨gb6, gk6⟩ := ownB_grown HO8.out g6 hz8.out
            have R6 : Hid (Below bs wx w6 ∧ Kp wx w6) := ⟨R8.out.1.trans gb6, R8.out.2.trans gk6⟩
            have HO6 : Hid (OwnB w6 bs v6 ((lk ++ M.pT x.two) ++ [M.b1 (m : Int)])) := o6
            refine hK.out _ _ (HSV.out _ R6.out) (fun hHeld => ?_)
            clear hK K o6 g6 gb6 gk6
            refine till_last rfl (by kernel_rfl) (by kernel_rfl) (fun K hK => ?_) _
            go_simp
            refine hK.out _ _ ?_
            clear hK K
            obtain ⟨l4, hl4⟩ : ∃ l4, l4 = (([M.b1 (kd : Int)] ++ M.pT x.one) ++ M.pT x.two) ++ [M.b1 (m : Int)] := ⟨_, rfl⟩
            have HL4 : Hid (l4 = (([M.b1 (kd : Int)] ++ M.pT x.one) ++ M.pT x.two) ++ [M.b1 (m : Int)]) := hl4
            have hl45 : l4.length ≤ 600 := by have e1 := HL1.out; have e2 := HL2.out; rw [hl4]; simp [M.pT]; omega
            have o4 := HO6.out
            rw [Hlk.out, ← hl4] at o4
            have HO40 : Aside (OwnB w6 bs v6 (l4 ++ (x.chs.take 0).flatMap M.pC)) := by unfold Aside; simpa using o4
            have bX6 : Below bs X1 w6 := HX17.out.trans R6.out.1
            clear o4 hl4 HO6
            go_wp2_with fail
            go_loopg [6, 7] m (fun g v i wr => ∃ k : Nat, k + g = m ∧ i = .int .i64 k ∧ Aside (OwnB wr bs v (l4 ++ (x.chs.take k).flatMap M.pC)) ∧ Aside (∀ c ∈ x.chs.take k, M.okC c) ∧ Below bs X1 wr)
            case atStart => exact ⟨0, by omega, rfl, HO40, by unfold Aside; simp, bX6⟩
            case round =>
              obtain ⟨k, hk, rfl, HOk, HAll, hbX⟩ := hrel
              obtain ⟨va, vl, vc, hv⟩ := ownB_slice HOk.out
              subst hv
              obtain ⟨_, _, _, j3⟩ := HBx.out wr hbX
              have hzr : bs ≤ wr.heap.size := by have := hbX.size; rw [HX1s.out] at this; exact this
              by_cases hkm : k < m
              · have hki : (k : Int) < (m : Int) := by omega
                have hkn : k < x.chs.length := by rw [HLn.out]; exact hkm
                obtain ⟨ab, ao, rfl, hab, hc⟩ : ∃ ab ao, a = some ⟨ab, ao, none⟩ ∧ ab < wr.heap.size ∧ (wr.cell? ⟨ab, ao + k * 3, none⟩ = some (.int .i64 (x.chs.getD k (0, 0, 0)).1) ∧ wr.cell? ⟨ab, ao + k * 3 + 1, none⟩ = some (.int .i64 (x.chs.getD k (0, 0, 0)).2.1) ∧ wr.cell? ⟨ab, ao + k * 3 + 2, none⟩ = some (.int .i64 (x.chs.getD k (0, 0, 0)).2.2)) := by
                  rcases (HRc.out wr hbX).cases with ⟨h0, _⟩ | ⟨ab, ao, e, _, _, hB, hc⟩
                  · omega
                  · exact ⟨ab, ao, e, hB, hc k hkm⟩
                have hmem : x.chs.getD k (0, 0, 0) ∈ x.chs := getD_memA hkn
                have hst := fmA_take M.pC (0, 0, 0) x.chs k hkn
                have hrg := HRg.out _ hmem
                obtain ⟨c, hcc⟩ : ∃ c, c = x.chs.getD k (0, 0, 0) := ⟨_, rfl⟩
                rw [← hcc] at hc hst hrg hmem
                have hck : x.chs[k] = c := by rw [hcc]; simp [List.getD, hkn]
                obtain ⟨x0, x1, x2⟩ := c
                obtain ⟨ck, c1, c2⟩ := hc
                simp only at ck c1 c2
                obtain ⟨hi1, hi2⟩ := hrg
                have hi1 : M.inI x1 := hi1
                have hi2 : M.inI x2 := hi2
                unfold M.inI at hi1 hi2
                have HMem : Hid ((x0, x1, x2) ∈ x.chs) := hmem
                obtain ⟨q, hq⟩ : ∃ q, q = wr.heap.size := ⟨_, rfl⟩
                obtain ⟨X, hX⟩ : ∃ X, X = wr.alloc (.cells #[.int .i64 x0, .int .i64 x1, .int .i64 x2] 69) := ⟨_, rfl⟩
                have bX : Below wr.heap.size wr X := by rw [hX]; exact (Below.refl _ _).alloc (Nat.le_refl _) _
                have hX0 : X.heap[q]? = some (.cells #[.int .i64 x0, .int .i64 x1, .int .i64 x2] 69 (0, 0)) := by rw [hX, hq]; exact heap_alloc_new _ _
                have HXc : Hid (∀ V, Kp X V → V.cell? ⟨q, 0, none⟩ = some (.int .i64 x0) ∧ V.cell? ⟨q, 1, none⟩ = some (.int .i64 x1) ∧ V.cell? ⟨q, 2, none⟩ = some (.int .i64 x2)) := fun V hV => by
                  have blk := hV _ _ _ (by decide) (by decide) hX0
                  exact ⟨by rw [cell_of_row _ _ _ _ _ _ blk]; rfl, by rw [cell_of_row _ _ _ _ _ _ blk]; rfl, by rw [cell_of_row _ _ _ _ _ _ blk]; rfl⟩
                have bqX : Below bs wr X := bX.mono hzr
                have HX : Hid (X = wr.alloc (.cells #[.int .i64 x0, .int .i64 x1, .int .i64 x2] 69)) := hX
                have HQ : Aside (q = wr.heap.size) := hq
                have bZX : Below w.heap.size w X := HBw.out X (hbX.trans bqX)
                have HZX : Hid (Below w.heap.size w X) := bZX
                have HOX : Hid (OwnB X bs (.slice va vl vc) (l4 ++ (x.chs.take k).flatMap M.pC)) := ownsRow_later HOk.out bX
                obtain ⟨t0, t1, t2⟩ := HXc.out X (Kp.refl _)
                rw [hX] at t0 t1 t2
                have HHck : Hid (x.chs[k] = (x0, x1, x2)) := hck
                have hzX : bs ≤ X.heap.size := Nat.le_trans hzr bX.size
                clear hcc hmem hX hq bX hX0 hck bZX
                by_cases g0 : 0 ≤ x0 ∧ x0 ≤ 255
                case neg =>
                  have HBad : Hid (sB = ⟨#[]⟩ ∧ F = 3) := HBadA.out (fun h => g0 (by have := h.2.2.2.2 _ HMem.out; obtain ⟨z1, z2, _⟩ := this; simp only at z1 z2; omega))
                  have KW : Hid (∀ V, Calls Tryz.prog 64 #[.int .i64 x0, .int .i64 0, .int .i64 255] V fun e w' => e = .returned (.bool false) ∧ w' = V) := fun V => within_no x0 0 255 V (by omega)
                  clear g0
                  go_wp2_with (go_at_call 64; refine (KW.out _).mono ?_; rintro e w2 ⟨rfl, rfl⟩)
                  rw [← HX.out]
                  go_ret2
                  exact ⟨by rw [HBad.out.1, HBad.out.2]; rfl, HZX.out⟩
                have KW0 : Hid (∀ V, Calls Tryz.prog 64 #[.int .i64 x0, .int .i64 0, .int .i64 255] V fun e w' => e = .returned (.bool true) ∧ w' = V) := fun V => within_yes x0 0 255 V g0.1 g0.2
                by_cases g1 : -1 ≤ x1 ∧ x1 ≤ 65534
                case neg =>
                  have HBad : Hid (sB = ⟨#[]⟩ ∧ F = 3) := HBadA.out (fun h => g1 (by have := h.2.2.2.2 _ HMem.out; obtain ⟨_, _, z1, z2, _⟩ := this; simp only at z1 z2; omega))
                  have KW : Hid (∀ V, Calls Tryz.prog 64 #[.int .i64 x1, .int .i64 (-1), .int .i64 65534] V fun e w' => e = .returned (.bool false) ∧ w' = V) := fun V => within_no x1 (-1) 65534 V (by omega)
                  clear g0 g1
                  go_wp2_with fail
                  refine (KW0.out _).mono ?_
                  rintro e w2 ⟨rfl, rfl⟩
                  go_wp2_with fail
                  refine (KW.out _).mono ?_
                  rintro e w2 ⟨rfl, rfl⟩
                  go_wp2
                  rw [← HX.out]
                  go_ret2
                  exact ⟨by rw [HBad.out.1, HBad.out.2]; rfl, HZX.out⟩
                have KW1 : Hid (∀ V, Calls Tryz.prog 64 #[.int .i64 x1, .int .i64 (-1), .int .i64 65534] V fun e w' => e = .returned (.bool true) ∧ w' = V) := fun V => within_yes x1 (-1) 65534 V g1.1 g1.2
                by_cases g2 : -1 ≤ x2 ∧ x2 ≤ 65534
                case neg =>
                  have HBad : Hid (sB = ⟨#[]⟩ ∧ F = 3) := HBadA.out (fun h => g2 (by have := h.2.2.2.2 _ HMem.out; obtain ⟨_, _, _, _, z1, z2⟩ := this; simp only at z1 z2; omega))
                  have KW : Hid (∀ V, Calls Tryz.prog 64 #[.int .i64 x2, .int .i64 (-1), .int .i64 65534] V fun e w' => e = .returned (.bool false) ∧ w' = V) := fun V => within_no x2 (-1) 65534 V (by omega)
                  clear g0 g1 g2
                  go_wp2_with fail
                  refine (KW0.out _).mono ?_
                  rintro e w2 ⟨rfl, rfl⟩
                  go_wp2_with fail
                  refine (KW1.out _).mono ?_
                  rintro e w2 ⟨rfl, rfl⟩
                  go_wp2_with fail
                  refine (KW.out _).mono ?_
                  rintro e w2 ⟨rfl, rfl⟩
                  go_wp2
                  rw [← HX.out]
                  go_ret2
                  exact ⟨by rw [HBad.out.1, HBad.out.2]; rfl, HZX.out⟩
                have KW2 : Hid (∀ V, Calls Tryz.prog 64 #[.int .i64 x2, .int .i64 (-1), .int .i64 65534] V fun e w' => e = .returned (.bool true) ∧ w' = V) := fun V => within_yes x2 (-1) 65534 V g2.1 g2.2
                obtain ⟨e0, rfl⟩ : ∃ e0 : Nat, x0 = (e0 : Int) := ⟨x0.toNat, by omega⟩
                obtain ⟨n1, hn1e⟩ : ∃ n1 : Nat, x1 + 1 = (n1 : Int) := ⟨(x1 + 1).toNat, by omega⟩
                obtain ⟨n2, hn2e⟩ : ∃ n2 : Nat, x2 + 1 = (n2 : Int) := ⟨(x2 + 1).toNat, by omega⟩
                have he0 : e0 < 256 := by omega
                have hn1 : n1 < 65536 := by omega
                have hn2 : n2 < 65536 := by omega
                obtain ⟨li, hli⟩ : ∃ li, li = l4 ++ (x.chs.take k).flatMap M.pC := ⟨_, rfl⟩
                have hli5 : li.length ≤ 5000 := by
                  have h5 : ∀ l : List M.Chg, (l.flatMap M.pC).length = 5 * l.length := by
                    intro l
                    induction l with
                    | nil => rfl
                    | cons c t ih => rw [List.flatMap_cons, List.length_append, ih]; simp [M.pC, M.b2]; omega
                  rw [hli, List.length_append, h5, List.length_take]
                  omega
                rw [← hli] at HOX
                have HSt : Hid ((((li ++ [M.b1 (e0 : Int)]) ++ M.b2 (n1 : Int)) ++ M.b2 (n2 : Int)) = l4 ++ (x.chs.take (k + 1)).flatMap M.pC) := by
                  unfold Hid
                  rw [hst, hli]
                  unfold M.pC
                  simp only
                  rw [hn1e, hn2e]
                  simp
                have HOkn : Aside (∀ c ∈ x.chs.take (k + 1), M.okC c) := by
                  intro c hc
                  rw [List.take_succ_eq_append_getElem hkn] at hc
                  rcases List.mem_append.1 hc with hc | hc
                  · exact HAll.out c hc
                  · rw [List.mem_singleton.1 hc, HHck.out]
                    refine ⟨?_, ?_, ?_, ?_, ?_, ?_⟩ <;> (simp only; omega)
                clear hst hli g0 g1 g2
                have hk2 : wr.heap.size ≤ X.heap.size := by rw [HX.out]; simp
                go_wp2_with fail
                refine (KW0.out _).mono ?_
                rintro e w2 ⟨rfl, rfl⟩
                go_wp2_with fail
                refine (KW1.out _).mono ?_
                rintro e w2 ⟨rfl, rfl⟩
                go_wp2_with fail
                refine (KW2.out _).mono ?_
                rintro e w2 ⟨rfl, rfl⟩
                clear t0 t1 t2 KW0 KW1 KW2 ck c1 c2
                obtain ⟨wx, hwx⟩ : ∃ wx, wx = X := ⟨_, rfl⟩
                have HSV : Hid (∀ V, (Below bs wx V ∧ Kp wx V) → V.cell? ⟨q, 0, none⟩ = some (.int .i64 (e0 : Int)) ∧ V.cell? ⟨q, 1, none⟩ = some (.int .i64 x1) ∧ V.cell? ⟨q, 2, none⟩ = some (.int .i64 x2)) := fun V hV => HXc.out V (by rw [← hwx]; exact hV.2)
                have w8u : IntKind.u8.wrap (e0 : Int) = (e0 : Int) := by rw [IntKind.wrap_u8]; omega
                have wn1 : IntKind.i64.wrap (n1 : Int) = (n1 : Int) := by rw [IntKind.wrap_i64]; omega
                have wn2 : IntKind.i64.wrap (n2 : Int) = (n2 : Int) := by rw [IntKind.wrap_i64]; omega
                have HXw : Hid (wx = wr.alloc (.cells #[.int .i64 (e0 : Int), .int .i64 x1, .int .i64 x2] 69)) := by rw [hwx]; exact HX.out
                subst hwx
                have HBd : Hid (Below bs wx wx.drew ∧ Kp wx wx.drew) := ⟨(Below.refl _ _).drew, Kp.of ((Below.refl _ _).drew)⟩
                have pbb : Below wx.heap.size wx (wx.alloc (.cells #[.int .u8 (e0 : Int)] 5)).drew := ((Below.refl _ _).alloc (Nat.le_refl _) _).drew
                have pb9 : Hid (Below bs wx (wx.alloc (.cells #[.int .u8 (e0 : Int)] 5)).drew ∧ Kp wx (wx.alloc (.cells #[.int .u8 (e0 : Int)] 5)).drew) := ⟨pbb.mono hzX, Kp.of pbb⟩
                have HO9 : Hid (OwnB (wx.alloc (.cells #[.int .u8 (e0 : Int)] 5)).drew bs (.slice va vl vc) li) := ownsRow_later HOX.out pbb
                have HS9 : Hid (SrcB (wx.alloc (.cells #[.int .u8 (e0 : Int)] 5)).drew wx.heap.size [M.b1 (e0 : Int)]) := (srcB_num wx e0 he0).later ((Below.refl _ _).drew)
                have HZ9 : Hid (bs ≤ (wx.alloc (.cells #[.int .u8 (e0 : Int)] 5)).drew.heap.size) := Nat.le_trans hzX pbb.size
                clear pbb
                go_wp2_with fail
                rw [← HXw.out, ← HQ.out]
                refine wp_region_till 16 (fun V => V.cell? ⟨q, 0, none⟩ = some (.int .i64 (e0 : Int)) ∧ V.cell? ⟨q, 1, none⟩ = some (.int .i64 x1) ∧ V.cell? ⟨q, 2, none⟩ = some (.int .i64 x2)) (by kernel_rfl) (HSV.out _ HBd.out) (fun hHeld => ?_)
                refine till_go 0 (v := .slice va vl vc) rfl (by decide) (by kernel_rfl) (by kernel_rfl) (by kernel_rfl) (fun _ _ _ h => h) (Or.inl ⟨by rfl, fun V _ => (by go_simp)⟩) hHeld ?_
                try simp only [Act.put]
                refine till_go 1 (v := .pointer (some ⟨q, 0, none⟩)) rfl (by decide) (by kernel_rfl) (by kernel_rfl) (by kernel_rfl) (fun _ _ _ h => h) (Or.inl ⟨by rfl, fun V _ => (by go_simp)⟩) hHeld ?_
                try simp only [Act.put]
                refine till_take 2 (v := .int .i64 (e0 : Int)) rfl (by decide) (by kernel_rfl) (by kernel_rfl) (by kernel_rfl) (by kernel_rfl) (by kernel_rfl) (fun _ _ _ h => h) (Or.inl ⟨by rfl, fun V hV => (by obtain ⟨v0, v1, v2⟩ := hV; go_simp)⟩) hHeld ?_
                try simp only [Act.put]
                refine till_go 3 (v := .int .u8 (e0 : Int)) rfl (by decide) (by kernel_rfl) (by kernel_rfl) (by kernel_rfl) (fun _ _ _ h => h) (Or.inl ⟨by rfl, fun V _ => (by go_simp)⟩) hHeld ?_
                try simp only [Act.put]
                refine till_go 6 (v := .pointer (some ⟨q, 1, none⟩)) rfl (by decide) (by kernel_rfl) (by kernel_rfl) (by kernel_rfl) (fun _ _ _ h => h) (Or.inl ⟨by rfl, fun V _ => (by go_simp)⟩) hHeld ?_
                try simp only [Act.put]
                refine till_take 7 (v := .int .i64 x1) rfl (by decide) (by kernel_rfl) (by kernel_rfl) (by kernel_rfl) (by kernel_rfl) (by kernel_rfl) (fun _ _ _ h => h) (Or.inl ⟨by rfl, fun V hV => (by obtain ⟨v0, v1, v2⟩ := hV; go_simp)⟩) hHeld ?_
                try simp only [Act.put]
                refine till_go 8 (v := .int .i64 (n1 : Int)) rfl (by decide) (by kernel_rfl) (by kernel_rfl) (by kernel_rfl) (fun _ _ _ h => h) (Or.inl ⟨by rfl, fun V _ => (by go_simp)⟩) hHeld ?_
                try simp only [Act.put]
                refine till_go 11 (v := .pointer (some ⟨q, 2, none⟩)) rfl (by decide) (by kernel_rfl) (by kernel_rfl) (by kernel_rfl) (fun _ _ _ h => h) (Or.inl ⟨by rfl, fun V _ => (by go_simp)⟩) hHeld ?_
                try simp only [Act.put]
                refine till_take 12 (v := .int .i64 x2) rfl (by decide) (by kernel_rfl) (by kernel_rfl) (by kernel_rfl) (by kernel_rfl) (by kernel_rfl) (fun _ _ _ h => h) (Or.inl ⟨by rfl, fun V hV => (by obtain ⟨v0, v1, v2⟩ := hV; go_simp)⟩) hHeld ?_
                try simp only [Act.put]
                refine till_go 13 (v := .int .i64 (n2 : Int)) rfl (by decide) (by kernel_rfl) (by kernel_rfl) (by kernel_rfl) (fun _ _ _ h => h) (Or.inl ⟨by rfl, fun V _ => (by go_simp)⟩) hHeld ?_
                try simp only [Act.put]
                refine till_step 4 rfl (by decide) (by kernel_rfl) (fun K hK => ?_)
                go_simp
                refine hK.out _ _ (HSV.out _ pb9.out) (fun hHeld => ?_)
                clear hK K
                refine till_step 5 rfl (by decide) (by kernel_rfl) (fun K hK => ?_)
                refine step_bys rfl _ _ rfl bs _ li rfl HO9.out wx.heap.size 1 1 [M.b1 (e0 : Int)] rfl rfl HS9.out (by simp; omega) HZ9.out ?_
                intro va5 wa5 o8 g8
                obtain ⟨gb8, gk8⟩ := ownB_grown HO9.out g8 HZ9.out
                have Rwa5 : Hid (Below bs wx wa5 ∧ Kp wx wa5) := ⟨pb9.out.1.trans gb8, pb9.out.2.trans gk8⟩
                have HOwa5 : Hid (OwnB wa5 bs va5 (li ++ [M.b1 (e0 : Int)])) := o8
                obtain ⟨va5a, va5n, va5c, rfl⟩ := ownB_slice o8
                have hzwa5 : Hid (bs ≤ wa5.heap.size) := Nat.le_trans HZ9.out gb8.size
                refine hK.out _ _ (HSV.out _ Rwa5.out) (fun hHeld => ?_)
                clear hK K o8 g8 gb8 gk8
                refine till_step 9 rfl (by decide) (by kernel_rfl) (fun K hK => ?_)
                go_simp
                refine (twoB_any n1 wa5 hn1).mono ?_
                rintro e wa6 ⟨ta6, tc6, rfl, ts, _, tb⟩
                have Rwa6 : Hid (Below bs wx wa6 ∧ Kp wx wa6) := ⟨Rwa5.out.1.trans (tb.mono hzwa5.out), Rwa5.out.2.trans (Kp.of tb)⟩
                have HOwa6 : Hid (OwnB wa6 bs (.slice va5a va5n va5c) (li ++ [M.b1 (e0 : Int)])) := ownsRow_later HOwa5.out tb
                have HSwa6 : Hid (SrcB wa6 ta6 (M.b2 (n1 : Int))) := ts
                have hzwa6 : Hid (bs ≤ wa6.heap.size) := Nat.le_trans hzwa5.out tb.size
                refine hK.out _ _ (HSV.out _ Rwa6.out) (fun hHeld => ?_)
                clear hK K ts tb
                refine till_step 10 rfl (by decide) (by kernel_rfl) (fun K hK => ?_)
                refine step_bys rfl _ _ rfl bs _ (li ++ [M.b1 (e0 : Int)]) rfl HOwa6.out ta6 2 tc6 (M.b2 (n1 : Int)) rfl rfl HSwa6.out (by simp; omega) hzwa6.out ?_
                intro va7 wa7 o8 g8
                obtain ⟨gb8, gk8⟩ := ownB_grown HOwa6.out g8 hzwa6.out
                have Rwa7 : Hid (Below bs wx wa7 ∧ Kp wx wa7) := ⟨Rwa6.out.1.trans gb8, Rwa6.out.2.trans gk8⟩
                have HOwa7 : Hid (OwnB wa7 bs va7 ((li ++ [M.b1 (e0 : Int)]) ++ (M.b2 (n1 : Int)))) := o8
                obtain ⟨va7a, va7n, va7c, rfl⟩ := ownB_slice o8
                have hzwa7 : Hid (bs ≤ wa7.heap.size) := Nat.le_trans hzwa6.out gb8.size
                refine hK.out _ _ (HSV.out _ Rwa7.out) (fun hHeld => ?_)
                clear hK K o8 g8 gb8 gk8
                refine till_step 14 rfl (by decide) (by kernel_rfl) (fun K hK => ?_)
                go_simp
                refine (twoB_any n2 wa7 hn2).mono ?_
                rintro e wa8 ⟨ta8, tc8, rfl, ts, _, tb⟩
                have Rwa8 : Hid (Below bs wx wa8 ∧ Kp wx wa8) := ⟨Rwa7.out.1.trans (tb.mono hzwa7.out), Rwa7.out.2.trans (Kp.of tb)⟩
                have HOwa8 : Hid (OwnB wa8 bs (.slice va7a va7n va7c) ((li ++ [M.b1 (e0 : Int)]) ++ M.b2 (n1 : Int))) := ownsRow_later HOwa7.out tb
                have HSwa8 : Hid (SrcB wa8 ta8 (M.b2 (n2 : Int))) := ts
                have hzwa8 : Hid (bs ≤ wa8.heap.size) := Nat.le_trans hzwa7.out tb.size
                refine hK.out _ _ (HSV.out _ Rwa8.out) (fun hHeld => ?_)
                clear hK K ts tb
                refine till_step 15 rfl (by decide) (by kernel_rfl) (fun K hK => ?_)
                refine step_bys rfl _ _ rfl bs _ ((li ++ [M.b1 (e0 : Int)]) ++ M.b2 (n1 : Int)) rfl HOwa8.out ta8 2 tc8 (M.b2 (n2 : Int)) rfl rfl HSwa8.out (by simp [M.b2]; omega) hzwa8.out ?_
                intro v6 w6 o6 g6
                obtain ⟨gb6, gk6⟩ := ownB_grown HOwa8.out g6 hzwa8.out
                have R6 : Hid (Below bs wx w6 ∧ Kp wx w6) := ⟨Rwa8.out.1.trans gb6, Rwa8.out.2.trans gk6⟩
                rw [HSt.out] at o6
                have HO6 : Aside (OwnB w6 bs v6 (l4 ++ (x.chs.take (k + 1)).flatMap M.pC)) := o6
                refine hK.out _ _ (HSV.out _ R6.out) (fun hHeld => ?_)
                clear hK K o6 g6 gb6 gk6
                refine till_last rfl (by kernel_rfl) (by kernel_rfl) (fun K hK => ?_) _
                go_simp
                refine hK.out _ _ ?_
                clear hK K
                go_wp2
                go_roundg (m - k - 1)
                case measure => omega
                case rel => exact ⟨k + 1, by omega, by go_num, HO6, HOkn, hbX.trans (bqX.trans R6.out.1)⟩
              · obtain rfl : k = m := by omega
                have hkk2 : decide ((k : Int) < (k : Int)) = false := by simp
                have e1 : x.chs.take k = x.chs := List.take_of_length_le (by rw [HLn.out]; exact Nat.le_refl _)
                rw [e1] at HOk HAll
                have hgood := HGoodA.out HAll.out
                have hfin : l4 ++ x.chs.flatMap M.pC = M.pA x := by
                  rw [HL4.out]
                  unfold M.pA M.pL
                  rw [HLn.out, ← HKd.out]
                  simp
                have ho := HOk.out
                rw [hfin] at ho
                have hcv := ownB_conv ho
                rw [← hgood.1] at hcv
                have hF := hgood.2
                have BZ := HBw.out wr hbX
                subst hF
                clear e1 hfin ho hgood
                go_wp2
                go_ret2
                exact ⟨rfl, BZ⟩
        case h8B =>
          go_simp
          refine hK.out _ _ (HSV.out _ pb9.out) (fun hHeld => ?_)
          clear hK K
          refine till_step 3 rfl (by decide) (by kernel_rfl) (fun K hK => ?_)
          go_simp
          refine (HTx.out _).mono ?_
          rintro e w7 ⟨ta, tc, rfl, ts, _, tb⟩
          have tb : Below (wx.alloc (.cells #[.int .u8 (m : Int)] 5)).drew.heap.size (wx.alloc (.cells #[.int .u8 (m : Int)] 5)).drew w7 := tb
          have R7 : Hid (Below bs wx w7 ∧ Kp wx w7) := ⟨pb9.out.1.trans (tb.mono HZ9.out), pb9.out.2.trans (Kp.of tb)⟩
          have HO7 : Hid (OwnB w7 bs (.slice va vl vc) lk) := ownsRow_later HO9.out tb
          have HT7 : Hid (SrcB w7 ta (M.pT x.two)) := ts
          have HS7 : Hid (SrcB w7 wx.heap.size [M.b1 (m : Int)]) := HS9.out.later tb
          have hz7 : Hid (bs ≤ w7.heap.size) := Nat.le_trans HZ9.out tb.size
          refine hK.out _ _ (HSV.out _ R7.out) (fun hHeld => ?_)
          clear hK K ts tb
          refine till_step 4 rfl (by decide) (by kernel_rfl) (fun K hK => ?_)
          refine step_bys rfl _ _ rfl bs _ lk rfl HO7.out ta ml tc (M.pT x.two) rfl HPl.out HT7.out (by omega) hz7.out ?_
          intro v8 w8 o8 g8
          obtain ⟨gb8, gk8⟩ := ownB_grown HO7.out g8 hz7.out
          have R8 : Hid (Below bs wx w8 ∧ Kp wx w8) := ⟨R7.out.1.trans gb8, R7.out.2.trans gk8⟩
          have HO8 : Hid (OwnB w8 bs v8 (lk ++ M.pT x.two)) := o8
          have HG8 : Hid (w7.grownBy w8 (Value.slice va vl vc).ownBlock) := g8
          obtain ⟨qa, qn, qc, rfl⟩ := ownB_slice o8
          have hz8 : Hid (bs ≤ w8.heap.size) := Nat.le_trans hz7.out gb8.size
          refine hK.out _ _ (HSV.out _ R8.out) (fun hHeld => ?_)
          clear hK K o8 g8 gb8 gk8
          have HS8 : Hid (SrcB w8 wx.heap.size [M.b1 (m : Int)]) := HS7.out.grown HG8.out (fun k e => by have := HLt.out k e; omega)
          refine till_step 10 rfl (by decide) (by kernel_rfl) (fun K hK => ?_)
          refine step_bys rfl _ _ rfl bs _ (lk ++ M.pT x.two) rfl HO8.out wx.heap.size 1 1 [M.b1 (m : Int)] rfl rfl HS8.out (by rw [List.length_append, HPl.out]; omega) hz8.out ?_
          intro v6 w6 o6 g6
          obtain ⟨gb6, gk6⟩ := ownB_grown HO8.out g6 hz8.out
          have R6 : Hid (Below bs wx w6 ∧ Kp wx w6) := ⟨R8.out.1.trans gb6, R8.out.2.trans gk6⟩
          have HO6 : Hid (OwnB w6 bs v6 ((lk ++ M.pT x.two) ++ [M.b1 (m : Int)])) := o6
          refine hK.out _ _ (HSV.out _ R6.out) (fun hHeld => ?_)
          clear hK K o6 g6 gb6 gk6
          refine till_last rfl (by kernel_rfl) (by kernel_rfl) (fun K hK => ?_) _
          go_simp
          refine hK.out _ _ ?_
          clear hK K
          obtain ⟨l4, hl4⟩ : ∃ l4, l4 = (([M.b1 (kd : Int)] ++ M.pT x.one) ++ M.pT x.two) ++ [M.b1 (m : Int)] := ⟨_, rfl⟩
          have HL4 : Hid (l4 = (([M.b1 (kd : Int)] ++ M.pT x.one) ++ M.pT x.two) ++ [M.b1 (m : Int)]) := hl4
          have hl45 : l4.length ≤ 600 := by have e1 := HL1.out; have e2 := HL2.out; rw [hl4]; simp [M.pT]; omega
          have o4 := HO6.out
          rw [Hlk.out, ← hl4] at o4
          have HO40 : Aside (OwnB w6 bs v6 (l4 ++ (x.chs.take 0).flatMap M.pC)) := by unfold Aside; simpa using o4
          have bX6 : Below bs X1 w6 := HX17.out.trans R6.out.1
          clear o4 hl4 HO6
          go_wp2_with fail
          go_loopg [6, 7] m (fun g v i wr => ∃ k : Nat, k + g = m ∧ i = .int .i64 k ∧ Aside (OwnB wr bs v (l4 ++ (x.chs.take k).flatMap M.pC)) ∧ Aside (∀ c ∈ x.chs.take k, M.okC c) ∧ Below bs X1 wr)
          case atStart => exact ⟨0, by omega, rfl, HO40, by unfold Aside; simp, bX6⟩
          case round =>
            obtain ⟨k, hk, rfl, HOk, HAll, hbX⟩ := hrel
            obtain ⟨va, vl, vc, hv⟩ := ownB_slice HOk.out
            subst hv
            obtain ⟨_, _, _, j3⟩ := HBx.out wr hbX
            have hzr : bs ≤ wr.heap.size := by have := hbX.size; rw [HX1s.out] at this; exact this
            by_cases hkm : k < m
            · have hki : (k : Int) < (m : Int) := by omega
              have hkn : k < x.chs.length := by rw [HLn.out]; exact hkm
              obtain ⟨ab, ao, rfl, hab, hc⟩ : ∃ ab ao, a = some ⟨ab, ao, none⟩ ∧ ab < wr.heap.size ∧ (wr.cell? ⟨ab, ao + k * 3, none⟩ = some (.int .i64 (x.chs.getD k (0, 0, 0)).1) ∧ wr.cell? ⟨ab, ao + k * 3 + 1, none⟩ = some (.int .i64 (x.chs.getD k (0, 0, 0)).2.1) ∧ wr.cell? ⟨ab, ao + k * 3 + 2, none⟩ = some (.int .i64 (x.chs.getD k (0, 0, 0)).2.2)) := by
                rcases (HRc.out wr hbX).cases with ⟨h0, _⟩ | ⟨ab, ao, e, _, _, hB, hc⟩
                · omega
                · exact ⟨ab, ao, e, hB, hc k hkm⟩
              have hmem : x.chs.getD k (0, 0, 0) ∈ x.chs := getD_memA hkn
              have hst := fmA_take M.pC (0, 0, 0) x.chs k hkn
              have hrg := HRg.out _ hmem
              obtain ⟨c, hcc⟩ : ∃ c, c = x.chs.getD k (0, 0, 0) := ⟨_, rfl⟩
              rw [← hcc] at hc hst hrg hmem
              have hck : x.chs[k] = c := by rw [hcc]; simp [List.getD, hkn]
              obtain ⟨x0, x1, x2⟩ := c
              obtain ⟨ck, c1, c2⟩ := hc
              simp only at ck c1 c2
              obtain ⟨hi1, hi2⟩ := hrg
              have hi1 : M.inI x1 := hi1
              have hi2 : M.inI x2 := hi2
              unfold M.inI at hi1 hi2
              have HMem : Hid ((x0, x1, x2) ∈ x.chs) := hmem
              obtain ⟨q, hq⟩ : ∃ q, q = wr.heap.size := ⟨_, rfl⟩
              obtain ⟨X, hX⟩ : ∃ X, X = wr.alloc (.cells #[.int .i64 x0, .int .i64 x1, .int .i64 x2] 69) := ⟨_, rfl⟩
              have bX : Below wr.heap.size wr X := by rw [hX]; exact (Below.refl _ _).alloc (Nat.le_refl _) _
              have hX0 : X.heap[q]? = some (.cells #[.int .i64 x0, .int .i64 x1, .int .i64 x2] 69 (0, 0)) := by rw [hX, hq]; exact heap_alloc_new _ _
              have HXc : Hid (∀ V, Kp X V → V.cell? ⟨q, 0, none⟩ = some (.int .i64 x0) ∧ V.cell? ⟨q, 1, none⟩ = some (.int .i64 x1) ∧ V.cell? ⟨q, 2, none⟩ = some (.int .i64 x2)) := fun V hV => by
                have blk := hV _ _ _ (by decide) (by decide) hX0
                exact ⟨by rw [cell_of_row _ _ _ _ _ _ blk]; rfl, by rw [cell_of_row _ _ _ _ _ _ blk]; rfl, by rw [cell_of_row _ _ _ _ _ _ blk]; rfl⟩
              have bqX : Below bs wr X := bX.mono hzr
              have HX : Hid (X = wr.alloc (.cells #[.int .i64 x0, .int .i64 x1, .int .i64 x2] 69)) := hX
              have HQ : Aside (q = wr.heap.size) := hq
              have bZX : Below w.heap.size w X := HBw.out X (hbX.trans bqX)
              have HZX : Hid (Below w.heap.size w X) := bZX
              have HOX : Hid (OwnB X bs (.slice va vl vc) (l4 ++ (x.chs.take k).flatMap M.pC)) := ownsRow_later HOk.out bX
              obtain ⟨t0, t1, t2⟩ := HXc.out X (Kp.refl _)
              rw [hX] at t0 t1 t2
              have HHck : Hid (x.chs[k] = (x0, x1, x2)) := hck
              have hzX : bs ≤ X.heap.size := Nat.le_trans hzr bX.size
              clear hcc hmem hX hq bX hX0 hck bZX
              by_cases g0 : 0 ≤ x0 ∧ x0 ≤ 255
              case neg =>
                have HBad : Hid (sB = ⟨#[]⟩ ∧ F = 3) := HBadA.out (fun h => g0 (by have := h.2.2.2.2 _ HMem.out; obtain ⟨z1, z2, _⟩ := this; simp only at z1 z2; omega))
                have KW : Hid (∀ V, Calls Tryz.prog 64 #[.int .i64 x0, .int .i64 0, .int .i64 255] V fun e w' => e = .returned (.bool false) ∧ w' = V) := fun V => within_no x0 0 255 V (by omega)
                clear g0
                go_wp2_with (go_at_call 64; refine (KW.out _).mono ?_; rintro e w2 ⟨rfl, rfl⟩)
                rw [← HX.out]
                go_ret2
                exact ⟨by rw [HBad.out.1, HBad.out.2]; rfl, HZX.out⟩
              have KW0 : Hid (∀ V, Calls Tryz.prog 64 #[.int .i64 x0, .int .i64 0, .int .i64 255] V fun e w' => e = .returned (.bool true) ∧ w' = V) := fun V => within_yes x0 0 255 V g0.1 g0.2
              by_cases g1 : -1 ≤ x1 ∧ x1 ≤ 65534
              case neg =>
                have HBad : Hid (sB = ⟨#[]⟩ ∧ F = 3) := HBadA.out (fun h => g1 (by have := h.2.2.2.2 _ HMem.out; obtain ⟨_, _, z1, z2, _⟩ := this; simp only at z1 z2; omega))
                have KW : Hid (∀ V, Calls Tryz.prog 64 #[.int .i64 x1, .int .i64 (-1), .int .i64 65534] V fun e w' => e = .returned (.bool false) ∧ w' = V) := fun V => within_no x1 (-1) 65534 V (by omega)
                clear g0 g1
                go_wp2_with fail
                refine (KW0.out _).mono ?_
                rintro e w2 ⟨rfl, rfl⟩
                go_wp2_with fail
                refine (KW.out _).mono ?_
                rintro e w2 ⟨rfl, rfl⟩
                go_wp2
                rw [← HX.out]
                go_ret2
                exact ⟨by rw [HBad.out.1, HBad.out.2]; rfl, HZX.out⟩
              have KW1 : Hid (∀ V, Calls Tryz.prog 64 #[.int .i64 x1, .int .i64 (-1), .int .i64 65534] V fun e w' => e = .returned (.bool true) ∧ w' = V) := fun V => within_yes x1 (-1) 65534 V g1.1 g1.2
              by_cases g2 : -1 ≤ x2 ∧ x2 ≤ 65534
              case neg =>
                have HBad : Hid (sB = ⟨#[]⟩ ∧ F = 3) := HBadA.out (fun h => g2 (by have := h.2.2.2.2 _ HMem.out; obtain ⟨_, _, _, _, z1, z2⟩ := this; simp only at z1 z2; omega))
                have KW : Hid (∀ V, Calls Tryz.prog 64 #[.int .i64 x2, .int .i64 (-1), .int .i64 65534] V fun e w' => e = .returned (.bool false) ∧ w' = V) := fun V => within_no x2 (-1) 65534 V (by omega)
                clear g0 g1 g2
                go_wp2_with fail
                refine (KW0.out _).mono ?_
                rintro e w2 ⟨rfl, rfl⟩
                go_wp2_with fail
                refine (KW1.out _).mono ?_
                rintro e w2 ⟨rfl, rfl⟩
                go_wp2_with fail
                refine (KW.out _).mono ?_
                rintro e w2 ⟨rfl, rfl⟩
                go_wp2
                rw [← HX.out]
                go_ret2
                exact ⟨by rw [HBad.out.1, HBad.out.2]; rfl, HZX.out⟩
              have KW2 : Hid (∀ V, Calls Tryz.prog 64 #[.int .i64 x2, .int .i64 (-1), .int .i64 65534] V fun e w' => e = .returned (.bool true) ∧ w' = V) := fun V => within_yes x2 (-1) 65534 V g2.1 g2.2
              obtain ⟨e0, rfl⟩ : ∃ e0 : Nat, x0 = (e0 : Int) := ⟨x0.toNat, by omega⟩
              obtain ⟨n1, hn1e⟩ : ∃ n1 : Nat, x1 + 1 = (n1 : Int) := ⟨(x1 + 1).toNat, by omega⟩
              obtain ⟨n2, hn2e⟩ : ∃ n2 : Nat, x2 + 1 = (n2 : Int) := ⟨(x2 + 1).toNat, by omega⟩
              have he0 : e0 < 256 := by omega
              have hn1 : n1 < 65536 := by omega
              have hn2 : n2 < 65536 := by omega
              obtain ⟨li, hli⟩ : ∃ li, li = l4 ++ (x.chs.take k).flatMap M.pC := ⟨_, rfl⟩
              have hli5 : li.length ≤ 5000 := by
                have h5 : ∀ l : List M.Chg, (l.flatMap M.pC).length = 5 * l.length := by
                  intro l
                  induction l with
                  | nil => rfl
                  | cons c t ih => rw [List.flatMap_cons, List.length_append, ih]; simp [M.pC, M.b2]; omega
                rw [hli, List.length_append, h5, List.length_take]
                omega
              rw [← hli] at HOX
              have HSt : Hid ((((li ++ [M.b1 (e0 : Int)]) ++ M.b2 (n1 : Int)) ++ M.b2 (n2 : Int)) = l4 ++ (x.chs.take (k + 1)).flatMap M.pC) := by
                unfold Hid
                rw [hst, hli]
                unfold M.pC
                simp only
                rw [hn1e, hn2e]
                simp
              have HOkn : Aside (∀ c ∈ x.chs.take (k + 1), M.okC c) := by
                intro c hc
                rw [List.take_succ_eq_append_getElem hkn] at hc
                rcases List.mem_append.1 hc with hc | hc
                · exact HAll.out c hc
                · rw [List.mem_singleton.1 hc, HHck.out]
                  refine ⟨?_, ?_, ?_, ?_, ?_, ?_⟩ <;> (simp only; omega)
              clear hst hli g0 g1 g2
              have hk2 : wr.heap.size ≤ X.heap.size := by rw [HX.out]; simp
              go_wp2_with fail
              refine (KW0.out _).mono ?_
              rintro e w2 ⟨rfl, rfl⟩
              go_wp2_with fail
              refine (KW1.out _).mono ?_
              rintro e w2 ⟨rfl, rfl⟩
              go_wp2_with fail
              refine (KW2.out _).mono ?_
              rintro e w2 ⟨rfl, rfl⟩
              clear t0 t1 t2 KW0 KW1 KW2 ck c1 c2
              obtain ⟨wx, hwx⟩ : ∃ wx, wx = X := ⟨_, rfl⟩
              have HSV : Hid (∀ V, (Below bs wx V ∧ Kp wx V) → V.cell? ⟨q, 0, none⟩ = some (.int .i64 (e0 : Int)) ∧ V.cell? ⟨q, 1, none⟩ = some (.int .i64 x1) ∧ V.cell? ⟨q, 2, none⟩ = some (.int .i64 x2)) := fun V hV => HXc.out V (by rw [← hwx]; exact hV.2)
              have w8u : IntKind.u8.wrap (e0 : Int) = (e0 : Int) := by rw [IntKind.wrap_u8]; omega
              have wn1 : IntKind.i64.wrap (n1 : Int) = (n1 : Int) := by rw [IntKind.wrap_i64]; omega
              have wn2 : IntKind.i64.wrap (n2 : Int) = (n2 : Int) := by rw [IntKind.wrap_i64]; omega
              have HXw : Hid (wx = wr.alloc (.cells #[.int .i64 (e0 : Int), .int .i64 x1, .int .i64 x2] 69)) := by rw [hwx]; exact HX.out
              subst hwx
              have HBd : Hid (Below bs wx wx.drew ∧ Kp wx wx.drew) := ⟨(Below.refl _ _).drew, Kp.of ((Below.refl _ _).drew)⟩
              have pbb : Below wx.heap.size wx (wx.alloc (.cells #[.int .u8 (e0 : Int)] 5)).drew := ((Below.refl _ _).alloc (Nat.le_refl _) _).drew
              have pb9 : Hid (Below bs wx (wx.alloc (.cells #[.int .u8 (e0 : Int)] 5)).drew ∧ Kp wx (wx.alloc (.cells #[.int .u8 (e0 : Int)] 5)).drew) := ⟨pbb.mono hzX, Kp.of pbb⟩
              have HO9 : Hid (OwnB (wx.alloc (.cells #[.int .u8 (e0 : Int)] 5)).drew bs (.slice va vl vc) li) := ownsRow_later HOX.out pbb
              have HS9 : Hid (SrcB (wx.alloc (.cells #[.int .u8 (e0 : Int)] 5)).drew wx.heap.size [M.b1 (e0 : Int)]) := (srcB_num wx e0 he0).later ((Below.refl _ _).drew)
              have HZ9 : Hid (bs ≤ (wx.alloc (.cells #[.int .u8 (e0 : Int)] 5)).drew.heap.size) := Nat.le_trans hzX pbb.size
              clear pbb
              go_wp2_with fail
              rw [← HXw.out, ← HQ.out]
              refine wp_region_till 16 (fun V => V.cell? ⟨q, 0, none⟩ = some (.int .i64 (e0 : Int)) ∧ V.cell? ⟨q, 1, none⟩ = some (.int .i64 x1) ∧ V.cell? ⟨q, 2, none⟩ = some (.int .i64 x2)) (by kernel_rfl) (HSV.out _ HBd.out) (fun hHeld => ?_)
              refine till_go 0 (v := .slice va vl vc) rfl (by decide) (by kernel_rfl) (by kernel_rfl) (by kernel_rfl) (fun _ _ _ h => h) (Or.inl ⟨by rfl, fun V _ => (by go_simp)⟩) hHeld ?_
              try simp only [Act.put]
              refine till_go 1 (v := .pointer (some ⟨q, 0, none⟩)) rfl (by decide) (by kernel_rfl) (by kernel_rfl) (by kernel_rfl) (fun _ _ _ h => h) (Or.inl ⟨by rfl, fun V _ => (by go_simp)⟩) hHeld ?_
              try simp only [Act.put]
              refine till_take 2 (v := .int .i64 (e0 : Int)) rfl (by decide) (by kernel_rfl) (by kernel_rfl) (by kernel_rfl) (by kernel_rfl) (by kernel_rfl) (fun _ _ _ h => h) (Or.inl ⟨by rfl, fun V hV => (by obtain ⟨v0, v1, v2⟩ := hV; go_simp)⟩) hHeld ?_
              try simp only [Act.put]
              refine till_go 3 (v := .int .u8 (e0 : Int)) rfl (by decide) (by kernel_rfl) (by kernel_rfl) (by kernel_rfl) (fun _ _ _ h => h) (Or.inl ⟨by rfl, fun V _ => (by go_simp)⟩) hHeld ?_
              try simp only [Act.put]
              refine till_go 6 (v := .pointer (some ⟨q, 1, none⟩)) rfl (by decide) (by kernel_rfl) (by kernel_rfl) (by kernel_rfl) (fun _ _ _ h => h) (Or.inl ⟨by rfl, fun V _ => (by go_simp)⟩) hHeld ?_
              try simp only [Act.put]
              refine till_take 7 (v := .int .i64 x1) rfl (by decide) (by kernel_rfl) (by kernel_rfl) (by kernel_rfl) (by kernel_rfl) (by kernel_rfl) (fun _ _ _ h => h) (Or.inl ⟨by rfl, fun V hV => (by obtain ⟨v0, v1, v2⟩ := hV; go_simp)⟩) hHeld ?_
              try simp only [Act.put]
              refine till_go 8 (v := .int .i64 (n1 : Int)) rfl (by decide) (by kernel_rfl) (by kernel_rfl) (by kernel_rfl) (fun _ _ _ h => h) (Or.inl ⟨by rfl, fun V _ => (by go_simp)⟩) hHeld ?_
              try simp only [Act.put]
              refine till_go 11 (v := .pointer (some ⟨q, 2, none⟩)) rfl (by decide) (by kernel_rfl) (by kernel_rfl) (by kernel_rfl) (fun _ _ _ h => h) (Or.inl ⟨by rfl, fun V _ => (by go_simp)⟩) hHeld ?_
              try simp only [Act.put]
              refine till_take 12 (v := .int .i64 x2) rfl (by decide) (by kernel_rfl) (by kernel_rfl) (by kernel_rfl) (by kernel_rfl) (by kernel_rfl) (fun _ _ _ h => h) (Or.inl ⟨by rfl, fun V hV => (by obtain ⟨v0, v1, v2⟩ := hV; go_simp)⟩) hHeld ?_
              try simp only [Act.put]
              refine till_go 13 (v := .int .i64 (n2 : Int)) rfl (by decide) (by kernel_rfl) (by kernel_rfl) (by kernel_rfl) (fun _ _ _ h => h) (Or.inl ⟨by rfl, fun V _ => (by go_simp)⟩) hHeld ?_
              try simp only [Act.put]
              refine till_step 4 rfl (by decide) (by kernel_rfl) (fun K hK => ?_)
              go_simp
              refine hK.out _ _ (HSV.out _ pb9.out) (fun hHeld => ?_)
              clear hK K
              refine till_step 5 rfl (by decide) (by kernel_rfl) (fun K hK => ?_)
              refine step_bys rfl _ _ rfl bs _ li rfl HO9.out wx.heap.size 1 1 [M.b1 (e0 : Int)] rfl rfl HS9.out (by simp; omega) HZ9.out ?_
              intro va5 wa5 o8 g8
              obtain ⟨gb8, gk8⟩ := ownB_grown HO9.out g8 HZ9.out
              have Rwa5 : Hid (Below bs wx wa5 ∧ Kp wx wa5) := ⟨pb9.out.1.trans gb8, pb9.out.2.trans gk8⟩
              have HOwa5 : Hid (OwnB wa5 bs va5 (li ++ [M.b1 (e0 : Int)])) := o8
              obtain ⟨va5a, va5n, va5c, rfl⟩ := ownB_slice o8
              have hzwa5 : Hid (bs ≤ wa5.heap.size) := Nat.le_trans HZ9.out gb8.size
              refine hK.out _ _ (HSV.out _ Rwa5.out) (fun hHeld => ?_)
              clear hK K o8 g8 gb8 gk8
              refine till_step 9 rfl (by decide) (by kernel_rfl) (fun K hK => ?_)
              go_simp
              refine (twoB_any n1 wa5 hn1).mono ?_
              rintro e wa6 ⟨ta6, tc6, rfl, ts, _, tb⟩
              have Rwa6 : Hid (Below bs wx wa6 ∧ Kp wx wa6) := ⟨Rwa5.out.1.trans (tb.mono hzwa5.out), Rwa5.out.2.trans (Kp.of tb)⟩
              have HOwa6 : Hid (OwnB wa6 bs (.slice va5a va5n va5c) (li ++ [M.b1 (e0 : Int)])) := ownsRow_later HOwa5.out tb
              have HSwa6 : Hid (SrcB wa6 ta6 (M.b2 (n1 : Int))) := ts
              have hzwa6 : Hid (bs ≤ wa6.heap.size) := Nat.le_trans hzwa5.out tb.size
              refine hK.out _ _ (HSV.out _ Rwa6.out) (fun hHeld => ?_)
              clear hK K ts tb
              refine till_step 10 rfl (by decide) (by kernel_rfl) (fun K hK => ?_)
              refine step_bys rfl _ _ rfl bs _ (li ++ [M.b1 (e0 : Int)]) rfl HOwa6.out ta6 2 tc6 (M.b2 (n1 : Int)) rfl rfl HSwa6.out (by simp; omega) hzwa6.out ?_
              intro va7 wa7 o8 g8
              obtain ⟨gb8, gk8⟩ := ownB_grown HOwa6.out g8 hzwa6.out
              have Rwa7 : Hid (Below bs wx wa7 ∧ Kp wx wa7) := ⟨Rwa6.out.1.trans gb8, Rwa6.out.2.trans gk8⟩
              have HOwa7 : Hid (OwnB wa7 bs va7 ((li ++ [M.b1 (e0 : Int)]) ++ (M.b2 (n1 : Int)))) := o8
              obtain ⟨va7a, va7n, va7c, rfl⟩ := ownB_slice o8
              have hzwa7 : Hid (bs ≤ wa7.heap.size) := Nat.le_trans hzwa6.out gb8.size
              refine hK.out _ _ (HSV.out _ Rwa7.out) (fun hHeld => ?_)
              clear hK K o8 g8 gb8 gk8
              refine till_step 14 rfl (by decide) (by kernel_rfl) (fun K hK => ?_)
              go_simp
              refine (twoB_any n2 wa7 hn2).mono ?_
              rintro e wa8 ⟨ta8, tc8, rfl, ts, _, tb⟩
              have Rwa8 : Hid (Below bs wx wa8 ∧ Kp wx wa8) := ⟨Rwa7.out.1.trans (tb.mono hzwa7.out), Rwa7.out.2.trans (Kp.of tb)⟩
              have HOwa8 : Hid (OwnB wa8 bs (.slice va7a va7n va7c) ((li ++ [M.b1 (e0 : Int)]) ++ M.b2 (n1 : Int))) := ownsRow_later HOwa7.out tb
              have HSwa8 : Hid (SrcB wa8 ta8 (M.b2 (n2 : Int))) := ts
              have hzwa8 : Hid (bs ≤ wa8.heap.size) := Nat.le_trans hzwa7.out tb.size
              refine hK.out _ _ (HSV.out _ Rwa8.out) (fun hHeld => ?_)
              clear hK K ts tb
              refine till_step 15 rfl (by decide) (by kernel_rfl) (fun K hK => ?_)
              refine step_bys rfl _ _ rfl bs _ ((li ++ [M.b1 (e0 : Int)]) ++ M.b2 (n1 : Int)) rfl HOwa8.out ta8 2 tc8 (M.b2 (n2 : Int)) rfl rfl HSwa8.out (by simp [M.b2]; omega) hzwa8.out ?_
              intro v6 w6 o6 g6
              obtain ⟨gb6, gk6⟩ := ownB_grown HOwa8.out g6 hzwa8.out
              have R6 : Hid (Below bs wx w6 ∧ Kp wx w6) := ⟨Rwa8.out.1.trans gb6, Rwa8.out.2.trans gk6⟩
              rw [HSt.out] at o6
              have HO6 : Aside (OwnB w6 bs v6 (l4 ++ (x.chs.take (k + 1)).flatMap M.pC)) := o6
              refine hK.out _ _ (HSV.out _ R6.out) (fun hHeld => ?_)
              clear hK K o6 g6 gb6 gk6
              refine till_last rfl (by kernel_rfl) (by kernel_rfl) (fun K hK => ?_) _
              go_simp
              refine hK.out _ _ ?_
              clear hK K
              go_wp2
              go_roundg (m - k - 1)
              case measure => omega
              case rel => exact ⟨k + 1, by omega, by go_num, HO6, HOkn, hbX.trans (bqX.trans R6.out.1)⟩
            · obtain rfl : k = m := by omega
              have hkk2 : decide ((k : Int) < (k : Int)) = false := by simp
              have e1 : x.chs.take k = x.chs := List.take_of_length_le (by rw [HLn.out]; exact Nat.le_refl _)
              rw [e1] at HOk HAll
              have hgood := HGoodA.out HAll.out
              have hfin : l4 ++ x.chs.flatMap M.pC = M.pA x := by
                rw [HL4.out]
                unfold M.pA M.pL
                rw [HLn.out, ← HKd.out]
                simp
              have ho := HOk.out
              rw [hfin] at ho
              have hcv := ownB_conv ho
              rw [← hgood.1] at hcv
              have hF := hgood.2
              have BZ := HBw.out wr hbX
              subst hF
              clear e1 hfin ho hgood
              go_wp2
              go_ret2
              exact ⟨rfl, BZ⟩
end Go.Proofs.YtcgpgflnihjpiafGreat
