/- diff.putNew, diff.Patch. -/
import Derived.Test.YtcgpgflnihjpiacPatch1
import Derived.Test.YtcgpgflnihjpiacClone
namespace Go.Proofs.Ytcgpgflnihjpiac
namespace M
/-- A table between laying what goes and laying what is put. -/
def stepT (f : Int → Int) (d : List Chg) (g : Bool) (j : Nat) : Int → Int := if g = true then tab f ((d.take j).filter gone) else tab (t1 f d) ((d.take j).filter (fun c => !gone c))
theorem stepT_zero (f : Int → Int) (d : List Chg) : stepT f d true 0 = f := rfl
theorem stepT_mid (f : Int → Int) (d : List Chg) (m : Nat) (h : d.length = m) : stepT f d true m = stepT f d false 0 := by
  unfold stepT
  rw [if_pos rfl, if_neg (by simp), List.take_of_length_le (by omega)]
  rfl
theorem stepT_end (f : Int → Int) (d : List Chg) (hd : d.Pairwise (fun a b => a.1 < b.1)) (m : Nat) (h : d.length = m) (k : Int) : stepT f d false m k = tab f d k := by
  unfold stepT
  rw [if_neg (by simp), List.take_of_length_le (by omega)]
  exact t1_all f d hd k
theorem stepT_skip (f : Int → Int) (d : List Chg) (g : Bool) (j : Nat) (h : j < d.length) (hg : gone (d.getD j (0, 0, 0)) ≠ g) : stepT f d g (j + 1) = stepT f d g j := by
  unfold stepT
  cases g with
  | true =>
    rw [if_pos rfl, if_pos rfl, filter_take d gone j h, if_neg hg, List.append_nil]
  | false =>
    have : gone (d.getD j (0, 0, 0)) = true := by simpa using hg
    rw [if_neg (show ¬ (false = true) by decide), if_neg (show ¬ (false = true) by decide), filter_take d _ j h, if_neg (by rw [this]; decide), List.append_nil]
theorem stepT_put (f : Int → Int) (d : List Chg) (g : Bool) (j : Nat) (h : j < d.length) (hg : gone (d.getD j (0, 0, 0)) = g) (k : Int) : stepT f d g (j + 1) k = if k = (d.getD j (0, 0, 0)).1 then (d.getD j (0, 0, 0)).2.2 else stepT f d g j k := by
  unfold stepT
  cases g with
  | true =>
    rw [if_pos rfl, if_pos rfl, filter_take d gone j h, if_pos hg, tab_snoc]
  | false =>
    rw [if_neg (show ¬ (false = true) by decide), if_neg (show ¬ (false = true) by decide), filter_take d _ j h, if_pos (by rw [hg]; decide), tab_snoc]
/-- What is too much in between is too much in the end. -/
theorem stepT_many (f : Int → Int) (d : List Chg) (hd : d.Pairwise (fun a b => a.1 < b.1)) (j : Nat) {R : List (Int × Int)} (ok : Ok R) (hR : ∀ k, find k R = stepT f d false j k) (hm : 40 < R.length) : 40 < (ofTab (tab f d)).length := by
  have e : ofTab (stepT f d false j) = R := ofTab_self ok _ fun i _ => (hR i).symm
  have h2 : (ofTab (stepT f d false j)).length ≤ (ofTab (tab f d)).length := foldTo_mono _ _ 100 fun i _ hi => by
    refine t1_le f d (d.take j) hd (List.take_sublist j d) (i : Int) ?_
    unfold stepT at hi
    rw [if_neg (by simp)] at hi
    exact hi
  rw [e] at h2
  omega
theorem put_gone_len (key : Int) (l : List (Int × Int)) : (put key (-1) l).length ≤ l.length := by
  unfold put
  rw [List.length_append, List.length_append]
  have e : own key (-1) = [] := by unfold own; simp
  rw [e]
  have : ∀ l : List (Int × Int), (lows key l).length + (highs key l).length ≤ l.length := by
    intro l
    induction l with
    | nil => simp [lows, highs]
    | cons r t ih =>
      unfold lows highs at ih ⊢
      simp only [List.filter_cons]
      by_cases h1 : r.1 < key
      · have h2 : ¬ key < r.1 := by omega
        simp [h1, h2]
        omega
      · by_cases h2 : key < r.1
        · simp [h1, h2]
          omega
        · simp [h1, h2]
          omega
  have := this l
  simp
  omega
end M
open Go.RowKit

/-- Rows that are the call's own. -/
def RdO (w : World) (B : Nat) (a : Option Addr) (n c : Nat) (R : List (Int × Int)) : Prop := R.length = n ∧ Rd w a n R ∧ Own w B (.slice a n c) R
theorem RdO.rd {w : World} {B : Nat} {a : Option Addr} {n c : Nat} {R : List (Int × Int)} (h : RdO w B a n c R) : Rd w a n R := h.2.1
theorem RdO.own {w : World} {B : Nat} {a : Option Addr} {n c : Nat} {R : List (Int × Int)} (h : RdO w B a n c R) : Own w B (.slice a n c) R := h.2.2
theorem RdO.below {w w' : World} {B : Nat} {a : Option Addr} {n c : Nat} {R : List (Int × Int)} (h : RdO w B a n c R) (hb : Below w.heap.size w w') : RdO w' B a n c R := by
  refine ⟨h.1, h.rd.below hb (Nat.le_refl _), ?_⟩
  obtain ⟨h1, h2⟩ := h.own
  refine ⟨h1, ?_⟩
  rcases h2 with h2 | ⟨g, cap, cur, hv, hg, hh, r⟩
  · exact Or.inl h2
  · exact Or.inr ⟨g, cap, cur, hv, hg, (hb.block g (Array.getElem?_eq_some_iff.1 hh).1).trans hh, r⟩

set_option maxRecDepth 100000 in
set_option maxHeartbeats 16000000 in
theorem putNew_own (a : Option Addr) (n cap : Nat) (l : List (Int × Int)) (a2 : Option Addr) (m mcap : Nat) (d : List M.Chg) (w : World) (h : Rd w a n l) (hnil : a = none → n = 0 ∧ cap = 0) (hz : M.chk l = 0) (hf : M.Fine (-1) d) (hrc : Rc w a2 m d) :
    Calls Try.prog 51 #[.slice a n cap, .slice a2 m mcap] w fun e w' => HandsO w w' (if 40 < (M.ofTab (M.tab (fun k => M.find k l) d)).length then [] else M.ofTab (M.tab (fun k => M.find k l) d)) (if 40 < (M.ofTab (M.tab (fun k => M.find k l) d)).length then 2 else 0) e := by
  have hzz := (M.chk_zero l).1 hz
  have hn : n ≤ 40 := by rw [← h.1]; exact hzz.1
  have hm100 : m ≤ 100 := by have := hf.len (by omega); have h1 := hrc.1; omega
  have hl := hrc.1
  have HRc : Aside (Rc w a2 m d) := hrc
  have HL : Aside (d.length = m) := hl
  have HFi : Aside (M.Fine (-1) d) := hf
  obtain ⟨T0, hT0⟩ : ∃ T0, T0 = fun k => M.find k l := ⟨_, rfl⟩
  rw [← hT0]
  have HT0 : Aside (∀ k, M.find k l = T0 k) := fun k => by rw [hT0]
  obtain ⟨F, hF⟩ : ∃ F, F = M.ofTab (M.tab T0 d) := ⟨_, rfl⟩
  rw [← hF]
  have HF : Aside (F = M.ofTab (M.tab T0 d)) := hF
  obtain ⟨LR, hLR⟩ : ∃ LR, LR = (if 40 < F.length then [] else F) := ⟨_, rfl⟩
  obtain ⟨ER, hER⟩ : ∃ ER : Int, ER = (if 40 < F.length then 2 else 0) := ⟨_, rfl⟩
  rw [← hLR, ← hER]
  have HLR : Aside (LR = (if 40 < F.length then [] else F)) := hLR
  have HER : Aside (ER = (if 40 < F.length then 2 else 0)) := hER
  have HCl := cloned_any a n cap l w (by omega) h hnil
  have HCC : Hid (Calls Try.prog 66 #[.slice a n cap] w fun e w' => ∃ v, e = .returned v ∧ Own w' w.heap.size v l ∧ Below w.heap.size w w') := HCl
  have HOk : Aside (M.Ok l ∧ l.length ≤ 40) := ⟨hzz.2, hzz.1⟩
  clear hrc hl h hz hf hT0 hF hLR hER HCl hzz hnil
  go_enter Try.func51, Try.ntmps51
  go_wp2_with fail
  refine HCC.out.mono ?_
  rintro e w1 ⟨v, rfl, hown, hb1⟩
  obtain ⟨a1, c1, rfl, hrd1, hlc1, hcm1, hnil1⟩ := hown.rd
  obtain ⟨Wb, hWb⟩ : ∃ Wb, Wb = w1.alloc (.cells #[.bool true, .bool false] 4) := ⟨_, rfl⟩
  have hbb : Below w1.heap.size w1 Wb := by rw [hWb]; exact (Below.refl _ _).alloc (Nat.le_refl _) _
  have hg0 : Wb.cell? ⟨w1.heap.size, 0, none⟩ = some (.bool true) := by rw [hWb]; simp [go_sem]
  have hg1 : Wb.cell? ⟨w1.heap.size, 1, none⟩ = some (.bool false) := by rw [hWb]; simp [go_sem]
  have hgl : w1.heap.size < Wb.heap.size := by rw [hWb]; simp
  have HG : Aside (∀ p, p < 2 → Wb.cell? ⟨w1.heap.size, p, none⟩ = some (.bool (decide (p = 0)))) := fun p hp => by
    match p, hp with
    | 0, _ => exact hg0
    | 1, _ => exact hg1
  have HWb : Hid (Wb = w1.alloc (.cells #[.bool true, .bool false] 4)) := hWb
  have hbw : Below w.heap.size w Wb := hb1.trans (hbb.mono hb1.size)
  have HR0 : Aside (RdO Wb w.heap.size a1 l.length c1 l) := RdO.below ⟨rfl, hrd1, hown⟩ hbb
  have HN1 : Aside (a1 = none → l.length = 0 ∧ c1 = 0) := hnil1
  clear HCC hown hrd1 hWb hbb hg0 hg1 hnil1
  obtain ⟨G, hGe⟩ : ∃ G, G = w1.heap.size := ⟨_, rfl⟩
  rw [← hGe] at hgl HG
  have HGe : Hid (G = w1.heap.size) := hGe
  have hGw : w.heap.size ≤ G := by rw [hGe]; exact hb1.size
  clear hGe hb1
  go_wp2
  rw [← HWb.out, ← HGe.out]
  go_loopg [6, 16] 2 (fun g vo ix wr => ∃ (p : Nat) (ao : Option Addr) (no co : Nat) (R : List (Int × Int)), p + g = 2 ∧ ix = .int .i64 p ∧ vo = .slice ao no co ∧ no ≤ 40 ∧ no ≤ co ∧ co ≤ maxLen ∧ Aside (ao = none → no = 0 ∧ co = 0) ∧ Aside (RdO wr w.heap.size ao no co R) ∧ Aside (M.Ok R) ∧ Aside (∀ k, M.find k R = (if p = 2 then M.stepT T0 d false m else M.stepT T0 d (decide (p = 0)) 0) k) ∧ Aside (Wb.heap.size ≤ wr.heap.size ∧ Below Wb.heap.size Wb wr) ∧ Below w.heap.size w wr)
  case atStart => exact ⟨0, a1, l.length, c1, l, by omega, rfl, rfl, HOk.out.2, hlc1, hcm1, HN1, HR0, HOk.out.1, fun k => by rw [if_neg (by omega)]; exact HT0.out k, ⟨Nat.le_refl _, Below.refl _ _⟩, hbw⟩
  case round =>
    obtain ⟨p, ao, no, co, R, hpg, rfl, rfl, hno, hnc, hcm, HN, HR, HRO, HT, HBW, hbel⟩ := hrel
    by_cases hp : p < 2
    · have hpi : (p : Int) < 2 := by omega
      have cg : wr.cell? ⟨G, p, none⟩ = some (.bool (decide (p = 0))) := (HBW.out.2.cell (p := ⟨G, p, none⟩) hgl).trans (HG.out p hp)
      obtain ⟨q, hq⟩ : ∃ q, decide (p = 0) = q := ⟨_, rfl⟩
      rw [hq] at cg
      have HQ : Aside (decide (p = 0) = q) := hq
      have HT2 : Aside (∀ k, M.find k R = M.stepT T0 d q 0 k) := fun k => by have h := HT.out k; rw [if_neg (by omega), hq] at h; exact h
      have hbel0 := hbel
      clear hq HT hbel
      go_wp2
      go_loopg [6, 22] m (fun g vo ix ws => ∃ (j : Nat) (ao : Option Addr) (no co : Nat) (R : List (Int × Int)), j + g = m ∧ ix = .int .i64 j ∧ vo = .slice ao no co ∧ no ≤ 40 ∧ no ≤ co ∧ co ≤ maxLen ∧ Aside (ao = none → no = 0 ∧ co = 0) ∧ Aside (RdO ws w.heap.size ao no co R) ∧ Aside (M.Ok R) ∧ Aside (∀ k, M.find k R = M.stepT T0 d q j k) ∧ Aside (Wb.heap.size ≤ ws.heap.size ∧ Below Wb.heap.size Wb ws) ∧ Below w.heap.size w ws)
      case atStart => exact ⟨0, ao, no, co, R, by omega, rfl, rfl, hno, hnc, hcm, HN, HR, HRO, HT2, HBW, hbel0⟩
      case round =>
        clear HN HR HRO HT2 HBW hbel0 hno hnc hcm
        obtain ⟨j, ao, no, co, R, hjg, rfl, rfl, hno, hnc, hcm, HN, HR, HRO, HT, HBW, hbel⟩ := hrel
        have hsz := hbel.size
        by_cases hj : j < m
        · have hji : (j : Int) < (m : Int) := by omega
          obtain ⟨x, y, z, hxyz⟩ : ∃ x y z, d.getD j (0, 0, 0) = (x, y, z) := ⟨_, _, _, rfl⟩
          obtain ⟨b, off, rfl, hB, hcc⟩ : ∃ b off, a2 = some ⟨b, off, none⟩ ∧ b < w.heap.size ∧ ∀ i, i < m → w.cell? ⟨b, off + i * 3, none⟩ = some (.int .i64 (d.getD i (0, 0, 0)).1) ∧ w.cell? ⟨b, off + i * 3 + 1, none⟩ = some (.int .i64 (d.getD i (0, 0, 0)).2.1) ∧ w.cell? ⟨b, off + i * 3 + 2, none⟩ = some (.int .i64 (d.getD i (0, 0, 0)).2.2) := by
            rcases HRc.out.cases with ⟨h0, _⟩ | ⟨b, off, e, _, _, hB, hcc⟩
            · omega
            · exact ⟨b, off, e, hB, hcc⟩
          obtain ⟨k1, k2, k3⟩ := hcc j hj
          clear hcc
          rw [hxyz] at k1 k2 k3
          have c0 : wr.cell? ⟨b, off + j * 3, none⟩ = some (.int .i64 x) := (hbel.cell (p := ⟨b, off + j * 3, none⟩) hB).trans k1
          have c1 : wr.cell? ⟨b, off + j * 3 + 1, none⟩ = some (.int .i64 y) := (hbel.cell (p := ⟨b, off + j * 3 + 1, none⟩) hB).trans k2
          have c2 : wr.cell? ⟨b, off + j * 3 + 2, none⟩ = some (.int .i64 z) := (hbel.cell (p := ⟨b, off + j * 3 + 2, none⟩) hB).trans k3
          have hjd : j < d.length := by rw [HL.out]; exact hj
          have hfx := HFi.out.1 _ (M.gmem d j hjd)
          rw [hxyz] at hfx
          have hx0 : 0 ≤ x := by have e : (-1 : Int) < x := hfx.1; omega
          have hx1 : x ≤ 99 := hfx.2.1
          have hz0 : -1 ≤ z := hfx.2.2.2.2.1
          have hz1 : z ≤ 996 := hfx.2.2.2.2.2.1
          have hgo : M.gone (d.getD j (0, 0, 0)) = decide (z = -1) := by rw [hxyz]; rfl
          obtain ⟨Wa, hWa⟩ : ∃ Wa, Wa = wr.alloc (.cells #[.int .i64 x, .int .i64 y, .int .i64 z] 50) := ⟨_, rfl⟩
          have hba : Below wr.heap.size wr Wa := by rw [hWa]; exact (Below.refl _ _).alloc (Nat.le_refl _) _
          have hbwa : Below w.heap.size w Wa := hbel.trans (hba.mono hsz)
          have HWa : Hid (Wa = wr.alloc (.cells #[.int .i64 x, .int .i64 y, .int .i64 z] 50)) := hWa
          have HRa : Aside (RdO Wa w.heap.size ao no co R) := HR.out.below hba
          have HBWa : Aside (Wb.heap.size ≤ Wa.heap.size ∧ Below Wb.heap.size Wb Wa) := ⟨Nat.le_trans HBW.out.1 hba.size, HBW.out.2.trans (hba.mono HBW.out.1)⟩
          by_cases hsel : decide (z = -1) = q
          · -- its turn
            have hzb : (z == -1) = q := by rw [← hsel]; rfl
            have HStep : Aside (∀ k, M.find k (M.put x z R) = M.stepT T0 d q (j + 1) k) := fun k => by
              rw [M.stepT_put T0 d q j hjd (hgo.trans hsel), hxyz]
              by_cases e : k = x
              · subst e; rw [if_pos rfl, M.find_put_same HRO.out hx0 hx1 hz0 hz1]
              · rw [if_neg e, M.find_put_other HRO.out hx0 hx1 hz0 hz1 e]; exact HT.out k
            have HPO : Aside (M.Ok (M.put x z R)) := M.put_ok HRO.out hx0 hx1 hz0 hz1
            have hchk : M.chk R = 0 := (M.chk_zero R).2 ⟨by rw [HR.out.1]; exact hno, HRO.out⟩
            have hask : M.asked R x = 0 := M.asked_ok hchk hx0 hx1
            have HP := put_own ao no co R x z Wa HRa.out.rd hnc hcm HN.out
            by_cases hlen : (M.put x z R).length ≤ 40
            · have e1 := M.putE_ok hask hz0 hz1 hlen
              rw [M.putV_ok e1, e1] at HP
              have HPP : Hid (Calls Try.prog 16 #[.slice ao no co, .int .i64 x, .int .i64 z] Wa fun e w' => HandsO Wa w' (M.put x z R) 0 e) := HP
              clear HP hgo hsel hxyz k1 k2 k3 hfx hWa hba hchk hask e1 hjd HT HR HRO HN HBW HRa
              cases q with
              | true =>
                go_wp2_with fail
                rw [← HWa.out]
                refine HPP.out.mono ?_
                rintro e w3 ⟨a3, n3, c3, rfl, hr3, hn3, hc3, hz3, hb3⟩
                have HR3 : Aside (RdO w3 w.heap.size a3 n3 c3 (M.put x z R)) := ⟨hr3.1, hr3, hz3.2.lower hbwa.size⟩
                have HN3 : Aside (a3 = none → n3 = 0 ∧ c3 = 0) := hz3.1
                have hn340 : n3 ≤ 40 := by rw [← hr3.1]; exact hlen
                have hb4 := hbwa.trans (hb3.mono hbwa.size)
                have HBW3 : Aside (Wb.heap.size ≤ w3.heap.size ∧ Below Wb.heap.size Wb w3) := ⟨Nat.le_trans HBWa.out.1 hb3.size, HBWa.out.2.trans (hb3.mono HBWa.out.1)⟩
                clear hr3 hz3 hb3 HPP
                go_wp2
                go_roundg (gk - 1)
                case measure => omega
                case rel => exact ⟨j + 1, a3, n3, c3, M.put x z R, by omega, by go_num, rfl, hn340, hn3, hc3, HN3, HR3, HPO, HStep, HBW3, hb4⟩
              | false =>
                go_wp2_with fail
                rw [← HWa.out]
                refine HPP.out.mono ?_
                rintro e w3 ⟨a3, n3, c3, rfl, hr3, hn3, hc3, hz3, hb3⟩
                have HR3 : Aside (RdO w3 w.heap.size a3 n3 c3 (M.put x z R)) := ⟨hr3.1, hr3, hz3.2.lower hbwa.size⟩
                have HN3 : Aside (a3 = none → n3 = 0 ∧ c3 = 0) := hz3.1
                have hn340 : n3 ≤ 40 := by rw [← hr3.1]; exact hlen
                have hb4 := hbwa.trans (hb3.mono hbwa.size)
                have HBW3 : Aside (Wb.heap.size ≤ w3.heap.size ∧ Below Wb.heap.size Wb w3) := ⟨Nat.le_trans HBWa.out.1 hb3.size, HBWa.out.2.trans (hb3.mono HBWa.out.1)⟩
                clear hr3 hz3 hb3 HPP
                go_wp2
                go_roundg (gk - 1)
                case measure => omega
                case rel => exact ⟨j + 1, a3, n3, c3, M.put x z R, by omega, by go_num, rfl, hn340, hn3, hc3, HN3, HR3, HPO, HStep, HBW3, hb4⟩
            · have hqf : q = false := by
                cases hq2 : q with
                | false => rfl
                | true =>
                  rw [hq2] at hsel
                  have hzz : z = -1 := by simpa using hsel
                  have h1 := M.put_gone_len x R
                  rw [← hzz, HR.out.1] at h1
                  omega
              have e1 := M.putE_many hask hz0 hz1 (by omega)
              rw [M.putV_no (by rw [e1]; omega), e1] at HP
              have HPP : Hid (Calls Try.prog 16 #[.slice ao no co, .int .i64 x, .int .i64 z] Wa fun e w' => HandsO Wa w' [] 2 e) := HP
              have hbig : 40 < F.length := by
                rw [HF.out]
                refine M.stepT_many T0 d HFi.out.2 (j + 1) HPO.out (fun k => ?_) (by omega)
                rw [← hqf]; exact HStep.out k
              have HLR2 : Aside (LR = []) := by unfold Aside; rw [HLR.out, if_pos hbig]
              have HER2 : Aside (ER = 2) := by unfold Aside; rw [HER.out, if_pos hbig]
              subst hqf
              clear HP hgo hsel hxyz k1 k2 k3 hfx hWa hba hchk hask e1 hjd HT HR HRO HN HBW HRa hbig hlen HStep HPO
              go_wp2_with fail
              rw [← HWa.out]
              refine HPP.out.mono ?_
              rintro e w3 ⟨a3, n3, c3, rfl, hr3, hn3, hc3, hz3, hb3⟩
              have hb4 := hbwa.trans (hb3.mono hbwa.size)
              clear hr3 hz3 hb3 HPP
              go_wp2
              go_ret2
              rw [HLR2.out, HER2.out]
              exact HandsO.err 2 hb4
          · have hzb : (z == -1) = !q := by
              have : decide (z = -1) = !q := by cases q <;> simp_all
              rw [← this]; rfl
            have HStep : Aside (∀ k, M.find k R = M.stepT T0 d q (j + 1) k) := fun k => by
              rw [M.stepT_skip T0 d q j hjd (fun e => hsel (hgo.symm.trans e))]; exact HT.out k
            rw [HWa.out] at HRa HBWa hbwa
            clear hgo hsel hxyz k1 k2 k3 hfx hWa hba hjd HT HR HBW
            cases q with
            | true =>
              go_wp2
              go_roundg (gk - 1)
              case measure => omega
              case rel => exact ⟨j + 1, ao, no, co, R, by omega, by go_num, rfl, hno, hnc, hcm, HN, HRa, HRO, HStep, HBWa, hbwa⟩
            | false =>
              go_wp2
              go_roundg (gk - 1)
              case measure => omega
              case rel => exact ⟨j + 1, ao, no, co, R, by omega, by go_num, rfl, hno, hnc, hcm, HN, HRa, HRO, HStep, HBWa, hbwa⟩
        · obtain rfl : j = m := by omega
          have HT3 : Aside (∀ k, M.find k R = (if p + 1 = 2 then M.stepT T0 d false j else M.stepT T0 d (decide (p + 1 = 0)) 0) k) := fun k => by
            have hq := HQ.out
            by_cases h0 : p = 0
            · have : q = true := by rw [← hq]; simp [h0]
              subst this
              rw [if_neg (by omega), decide_eq_false (by omega), ← M.stepT_mid T0 d j HL.out]
              exact HT.out k
            · have : q = false := by rw [← hq]; simp [h0]
              subst this
              rw [if_pos (by omega)]
              exact HT.out k
          go_wp2
          go_roundg (2 - (p + 1))
          case measure => omega
          case rel => exact ⟨p + 1, ao, no, co, R, by omega, by go_num, rfl, hno, hnc, hcm, HN, HR, HRO, HT3, HBW, hbel⟩
    · obtain rfl : p = 2 := by omega
      have eR : R = F := by
        rw [HF.out]
        refine (M.ofTab_self HRO.out _ fun i _ => ?_).symm
        have h := HT.out i
        rw [if_pos rfl, M.stepT_end T0 d HFi.out.2 m HL.out] at h
        exact h.symm
      have hF40 : ¬ 40 < F.length := by rw [← eR, HR.out.1]; omega
      have HLR2 : Aside (LR = R) := by unfold Aside; rw [HLR.out, if_neg hF40, eR]
      have HER2 : Aside (ER = 0) := by unfold Aside; rw [HER.out, if_neg hF40]
      clear eR hF40
      go_wp2
      go_ret2
      rw [HLR2.out, HER2.out]
      exact ⟨ao, no, co, rfl, HR.out.rd, hnc, hcm, ⟨HN.out, HR.out.own⟩, hbel⟩

theorem checkOld_any (a : Option Addr) (n cap : Nat) (l : List (Int × Int)) (a2 : Option Addr) (m mcap : Nat) (d : List M.Chg) (w : World) (h : Rd w a n l) (hz : M.chk l = 0) (hf : M.Fine (-1) d) (hrc : Rc w a2 m d) :
    Calls Try.prog 50 #[.slice a n cap, .slice a2 m mcap] w fun e w' => e = .returned (.int .i64 (if M.clashF l d = true then 7 else 0)) ∧ Below w.heap.size w w' := by
  rcases hrc.cases with ⟨rfl, rfl⟩ | ⟨b, off, rfl, hn, hl, hB, hc⟩
  · refine (checkOld_none _ a2 mcap w).mono ?_
    rintro e w' ⟨rfl, rfl⟩
    exact ⟨rfl, Below.refl _ _⟩
  · exact checkOld_some a n cap l b off m mcap d w h hz hf hl hB hc

set_option maxHeartbeats 4000000 in
theorem patch_own (a : Option Addr) (n cap : Nat) (l : List (Int × Int)) (a2 : Option Addr) (m mcap : Nat) (d : List M.Chg) (w : World) (h : Rd w a n l) (hn : n ≤ 9223372036854775807) (hnil : a = none → n = 0 ∧ cap = 0) (hrc : Rc w a2 m d) (hm : m ≤ 9223372036854775807) :
    Calls Try.prog 23 #[.slice a n cap, .slice a2 m mcap] w fun e w' => HandsO w w' (M.patchV l d) (M.patchE l d) e := by
  have HR : Hid (Rd w a n l) := h
  have HD : Hid (Rc w a2 m d) := hrc
  have HK := check_any a n cap l w h hn
  by_cases hz : M.chk l = 0
  · rw [hz] at HK
    have HKK : Hid (Calls Try.prog 36 #[.slice a n cap] w fun e w' => e = .returned (.int .i64 0) ∧ Below w.heap.size w w') := HK
    have HZ : Hid (M.chk l = 0) := hz
    clear HK h hrc
    by_cases hf : M.fine d = true
    · have HFi : Hid (M.Fine (-1) d) := (M.fine_iff d).1 hf
      have HFt : Hid (M.fine d = true) := hf
      cases hcl : M.clashF l d with
      | true =>
        have e1 : M.patchE l d = 7 := by unfold M.patchE; rw [hz, hf, hcl]; simp
        have e2 : M.patchV l d = [] := by unfold M.patchV; rw [e1]; simp
        rw [e1, e2]
        have HCl : Hid (M.clashF l d = true) := hcl
        clear e1 e2 hcl hf hz
        go_enter Try.func23, Try.ntmps23
        go_wp2_with fail
        refine HKK.out.mono ?_
        rintro e w1 ⟨rfl, hb1⟩
        have K2 := dright_any a2 m mcap d w1 (HD.out.below hb1 (Nat.le_refl _)) hm
        rw [HFt.out] at K2
        have KK2 : Hid (Calls Try.prog 49 #[.slice a2 m mcap] w1 fun e w' => e = .returned (.bool true) ∧ Below w1.heap.size w1 w') := K2
        clear K2
        go_wp2_with fail
        refine KK2.out.mono ?_
        rintro e w2 ⟨rfl, hb2⟩
        have c2 := hb1.trans (hb2.mono hb1.size)
        have K3 := checkOld_any a n cap l a2 m mcap d w2 (HR.out.below c2 (Nat.le_refl _)) HZ.out HFi.out (HD.out.below c2 (Nat.le_refl _))
        rw [HCl.out, if_pos rfl] at K3
        have KK3 : Hid (Calls Try.prog 50 #[.slice a n cap, .slice a2 m mcap] w2 fun e w' => e = .returned (.int .i64 7) ∧ Below w2.heap.size w2 w') := K3
        clear K3 hb1 hb2
        go_wp2_with fail
        refine KK3.out.mono ?_
        rintro e w3 ⟨rfl, hb3⟩
        have c3 := c2.trans (hb3.mono c2.size)
        go_wp2
        go_ret2
        exact HandsO.err 7 c3
      | false =>
        obtain ⟨LR, hLR⟩ : ∃ LR, LR = M.patchV l d := ⟨_, rfl⟩
        obtain ⟨ER, hER⟩ : ∃ ER, ER = M.patchE l d := ⟨_, rfl⟩
        rw [← hLR, ← hER]
        have e1 : ER = (if 40 < (M.ofTab (M.tab (fun k => M.find k l) d)).length then 2 else 0) := by rw [hER]; unfold M.patchE; rw [hz, hf, hcl]; simp
        have e2 : LR = (if 40 < (M.ofTab (M.tab (fun k => M.find k l) d)).length then [] else M.ofTab (M.tab (fun k => M.find k l) d)) := by
          rw [hLR]
          unfold M.patchV
          rw [← hER, e1]
          by_cases h4 : 40 < (M.ofTab (M.tab (fun k => M.find k l) d)).length
          · rw [if_pos h4, if_pos h4]; simp
          · rw [if_neg h4, if_neg h4]; simp
        have HE1 : Hid (ER = (if 40 < (M.ofTab (M.tab (fun k => M.find k l) d)).length then 2 else 0)) := e1
        have HE2 : Hid (LR = (if 40 < (M.ofTab (M.tab (fun k => M.find k l) d)).length then [] else M.ofTab (M.tab (fun k => M.find k l) d))) := e2
        have HCl : Hid (M.clashF l d = false) := hcl
        clear e1 e2 hcl hf hz hLR hER
        go_enter Try.func23, Try.ntmps23
        go_wp2_with fail
        refine HKK.out.mono ?_
        rintro e w1 ⟨rfl, hb1⟩
        have K2 := dright_any a2 m mcap d w1 (HD.out.below hb1 (Nat.le_refl _)) hm
        rw [HFt.out] at K2
        have KK2 : Hid (Calls Try.prog 49 #[.slice a2 m mcap] w1 fun e w' => e = .returned (.bool true) ∧ Below w1.heap.size w1 w') := K2
        clear K2
        go_wp2_with fail
        refine KK2.out.mono ?_
        rintro e w2 ⟨rfl, hb2⟩
        have c2 := hb1.trans (hb2.mono hb1.size)
        have K3 := checkOld_any a n cap l a2 m mcap d w2 (HR.out.below c2 (Nat.le_refl _)) HZ.out HFi.out (HD.out.below c2 (Nat.le_refl _))
        rw [HCl.out, if_neg (by simp)] at K3
        have KK3 : Hid (Calls Try.prog 50 #[.slice a n cap, .slice a2 m mcap] w2 fun e w' => e = .returned (.int .i64 0) ∧ Below w2.heap.size w2 w') := K3
        clear K3 hb1 hb2
        go_wp2_with fail
        refine KK3.out.mono ?_
        rintro e w3 ⟨rfl, hb3⟩
        have c3 := c2.trans (hb3.mono c2.size)
        have K4 := putNew_own a n cap l a2 m mcap d w3 (HR.out.below c3 (Nat.le_refl _)) hnil HZ.out HFi.out (HD.out.below c3 (Nat.le_refl _))
        rw [← HE1.out, ← HE2.out] at K4
        have KK4 : Hid (Calls Try.prog 51 #[.slice a n cap, .slice a2 m mcap] w3 fun e w' => HandsO w3 w' LR ER e) := K4
        clear K4 hb3 c2
        go_wp2_with fail
        refine KK4.out.mono ?_
        rintro e w4 ⟨a4, n4, c4, rfl, hr4, hn4, hc4, hz4, hb4⟩
        have HR4 : Hid (Rd w4 a4 n4 LR) := hr4
        have HZ4 : Hid ((a4 = none → n4 = 0 ∧ c4 = 0) ∧ Own w4 w.heap.size (.slice a4 n4 c4) LR) := ⟨hz4.1, hz4.2.lower c3.size⟩
        have c5 := c3.trans (hb4.mono c3.size)
        clear hr4 hz4 hb4
        go_wp2
        go_ret2
        exact ⟨a4, n4, c4, rfl, HR4.out, hn4, hc4, HZ4.out, c5⟩
    · have e1 : M.patchE l d = 1 := by unfold M.patchE; rw [hz]; simp [hf]
      have e2 : M.patchV l d = [] := by unfold M.patchV; rw [e1]; simp
      rw [e1, e2]
      have HFt : Hid (M.fine d = false) := by unfold Hid; simpa using hf
      clear e1 e2 hf hz
      go_enter Try.func23, Try.ntmps23
      go_wp2_with fail
      refine HKK.out.mono ?_
      rintro e w1 ⟨rfl, hb1⟩
      have K2 := dright_any a2 m mcap d w1 (HD.out.below hb1 (Nat.le_refl _)) hm
      rw [HFt.out] at K2
      have KK2 : Hid (Calls Try.prog 49 #[.slice a2 m mcap] w1 fun e w' => e = .returned (.bool false) ∧ Below w1.heap.size w1 w') := K2
      clear K2
      go_wp2_with fail
      refine KK2.out.mono ?_
      rintro e w2 ⟨rfl, hb2⟩
      have c2 := hb1.trans (hb2.mono hb1.size)
      go_wp2
      go_ret2
      exact HandsO.err 1 c2
  · have e1 : M.patchE l d = M.chk l := by unfold M.patchE; rw [if_pos hz]
    have e2 : M.patchV l d = [] := by unfold M.patchV; rw [if_neg (by rw [e1]; exact hz)]
    rw [e1, e2]
    obtain ⟨c, hc⟩ : ∃ c, c = M.chk l := ⟨_, rfl⟩
    rw [← hc] at HK hz ⊢
    have hne : (c != 0) = true := by simp [hz]
    have HKK : Hid (Calls Try.prog 36 #[.slice a n cap] w fun e w' => e = .returned (.int .i64 c) ∧ Below w.heap.size w w') := HK
    clear HK h hrc hz hc e1 e2
    go_enter Try.func23, Try.ntmps23
    go_wp2_with fail
    refine HKK.out.mono ?_
    rintro e w1 ⟨rfl, hb1⟩
    go_wp2
    go_ret2
    exact HandsO.err c hb1
theorem patch_any (a : Option Addr) (n cap : Nat) (l : List (Int × Int)) (a2 : Option Addr) (m mcap : Nat) (d : List M.Chg) (w : World) (h : Rd w a n l) (hn : n ≤ 9223372036854775807) (hnil : a = none → n = 0 ∧ cap = 0) (hrc : Rc w a2 m d) (hm : m ≤ 9223372036854775807) :
    Calls Try.prog 23 #[.slice a n cap, .slice a2 m mcap] w fun e w' => Hands w w' (M.patchV l d) (M.patchE l d) e := (patch_own a n cap l a2 m mcap d w h hn hnil hrc hm).mono fun _ _ h => h.hands
end Go.Proofs.Ytcgpgflnihjpiac
