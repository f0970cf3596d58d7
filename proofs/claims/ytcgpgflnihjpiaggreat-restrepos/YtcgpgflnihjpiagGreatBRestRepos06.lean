/- FirstOf. -/
import Derived.Test.YtcgpgflnihjpiagGreatBRestRepos01
import Derived.Test.YtcgpgflnihjpiagGreatBRestRepos04
import Derived.Shelf.Abstract
import Derived.Laws.EntriesVeiled
import Derived.Test.YtcgpgflnihjpiagGreatBRestRepos03
import Derived.Test.YtcgpgflnihjpiagGreatBRestRepos05
import Derived.Deep.RegionHeld3
namespace Go.Proofs.YtcgpgflnihjpiagGreat
open Go.RowKit Go.Shelf
structure Bar where
  err : Int
  fn : Nat
  cs : List Value
  is : Bool
def bar0 : Bar := ⟨0, 0, [], false⟩
def firstE : List Bar → Int
  | [] => 0
  | b :: t => if b.is = true then b.err else firstE t
theorem firstE_yes (l : List Bar) (k : Nat) (h : k < l.length) (b : Bar) (e : l.getD k bar0 = b) (hb : b.is = true) : firstE (l.drop k) = b.err := by
  rw [List.drop_eq_getElem_cons h, show l[k] = b by rw [← e]; simp [List.getD, h], firstE, if_pos hb]
theorem firstE_no (l : List Bar) (k : Nat) (h : k < l.length) (b : Bar) (e : l.getD k bar0 = b) (hb : b.is = false) : firstE (l.drop k) = firstE (l.drop (k + 1)) := by
  rw [List.drop_eq_getElem_cons h, show l[k] = b by rw [← e]; simp [List.getD, h], firstE, if_neg (by rw [hb]; simp)]
theorem firstE_end (l : List Bar) (k : Nat) (h : l.length ≤ k) : firstE (l.drop k) = 0 := by
  rw [List.drop_eq_nil_of_le h]; rfl
set_option maxHeartbeats 2000000 in
theorem firstOf_any (bb n : Nat) (l : List Bar) (w : World) (hl : l.length = n) (hn : n ≤ 1000) (hB : bb < w.heap.size)
    (hc : ∀ i, i < n → w.cell? ⟨bb, i * 2, none⟩ = some (.int .i64 (l.getD i bar0).err) ∧ w.cell? ⟨bb, i * 2 + 1, none⟩ = some (.func (.func (l.getD i bar0).fn) #[] (l.getD i bar0).cs.toArray))
    (hf : ∀ b ∈ l, (∀ args w, (callFunc b.fn args).run Tryz.prog w = .ok (.enter b.fn args) w) ∧ ∀ W, Below w.heap.size w W → Calls Tryz.prog b.fn b.cs.toArray W fun e w' => e = .returned (.bool b.is) ∧ Below W.heap.size W w') :
    Calls Tryz.prog 68 #[.slice (some ⟨bb, 0, none⟩) n n] w fun e w' => e = .returned (.int .i64 (firstE l)) ∧ Below w.heap.size w w' := by
  have HC : Aside (∀ i, i < n → w.cell? ⟨bb, i * 2, none⟩ = some (.int .i64 (l.getD i bar0).err) ∧ w.cell? ⟨bb, i * 2 + 1, none⟩ = some (.func (.func (l.getD i bar0).fn) #[] (l.getD i bar0).cs.toArray)) := hc
  have HF : Aside (∀ b ∈ l, (∀ args w, (callFunc b.fn args).run Tryz.prog w = .ok (.enter b.fn args) w) ∧ ∀ W, Below w.heap.size w W → Calls Tryz.prog b.fn b.cs.toArray W fun e w' => e = .returned (.bool b.is) ∧ Below W.heap.size W w') := hf
  have HL : Aside (l.length = n) := hl
  clear hc hl hf
  go_enter Tryz.func68, Tryz.ntmps68
  go_wp2
  go_loopg [7] n (fun g i wr => ∃ (k : Nat), k + g = n ∧ i = .int .i64 k ∧ Below w.heap.size w wr ∧ Aside (firstE (l.drop k) = firstE l))
  case atStart => exact ⟨0, by omega, rfl, Below.refl _ _, by simp [Aside]⟩
  case round =>
    obtain ⟨k, hk, rfl, hbel, A⟩ := hrel
    have hsz := hbel.size
    by_cases hlt : k < n
    · obtain ⟨b, hb⟩ : ∃ b, l.getD k bar0 = b := ⟨_, rfl⟩
      obtain ⟨q0, q1⟩ := HC.out k hlt
      rw [hb] at q0 q1
      have c0 : wr.cell? ⟨bb, k * 2, none⟩ = some (.int .i64 b.err) := (hbel.cell (p := ⟨bb, k * 2, none⟩) hB).trans q0
      have c1 : wr.cell? ⟨bb, k * 2 + 1, none⟩ = some (.func (.func b.fn) #[] b.cs.toArray) := (hbel.cell (p := ⟨bb, k * 2 + 1, none⟩) hB).trans q1
      have hmem : b ∈ l := by rw [← hb]; have := HL.out; simp [List.getD, this, hlt]
      obtain ⟨eg, hcall⟩ := HF.out b hmem
      obtain ⟨Wb, hWb⟩ : ∃ Wb, Wb = wr.alloc (.cells #[.int .i64 b.err, .func (.func b.fn) #[] b.cs.toArray] 113) := ⟨_, rfl⟩
      have hbb : Below w.heap.size w Wb := by rw [hWb]; exact hbel.alloc hsz _
      have e0 : Wb.cell? ⟨wr.heap.size, 0, none⟩ = some (.int .i64 b.err) := by rw [hWb]; simp [go_sem]
      have hbl : wr.heap.size < Wb.heap.size := by rw [hWb]; simp
      obtain ⟨t, ht⟩ : ∃ t, b.is = t := ⟨_, rfl⟩
      have hcall := hcall Wb hbb
      rw [ht] at hcall
      have LH : Hid (Calls Tryz.prog b.fn b.cs.toArray Wb fun e w' => e = .returned (.bool t) ∧ Below Wb.heap.size Wb w') := hcall
      have HX : Aside (l.getD k bar0 = b) := hb
      have HT : Aside (b.is = t) := ht
      have HWb : Hid (Wb = wr.alloc (.cells #[.int .i64 b.err, .func (.func b.fn) #[] b.cs.toArray] 113)) := hWb
      have hki : (k : Int) < (n : Int) := by omega
      clear q0 q1 hb hmem ht hcall hWb
      cases t with
      | true =>
        go_wp2_with fail
        rw [← HWb.out]
        refine LH.out.mono ?_
        rintro e w1 ⟨rfl, hb1⟩
        have e1 : w1.cell? ⟨wr.heap.size, 0, none⟩ = some (.int .i64 b.err) := (hb1.cell (p := ⟨wr.heap.size, 0, none⟩) hbl).trans e0
        have hb2 := hbb.trans (hb1.mono hbb.size)
        go_wp2
        go_ret
        exact ⟨ret_int (by rw [← A.out, firstE_yes l k (by rw [HL.out]; exact hlt) b HX.out HT.out]), hb2⟩
      | false =>
        go_wp2_with fail
        rw [← HWb.out]
        refine LH.out.mono ?_
        rintro e w1 ⟨rfl, hb1⟩
        have hb2 := hbb.trans (hb1.mono hbb.size)
        go_wp2
        go_roundg (gk - 1)
        case measure => omega
        case rel => exact ⟨k + 1, by omega, by go_num, hb2, by unfold Aside; rw [← A.out, firstE_no l k (by rw [HL.out]; exact hlt) b HX.out HT.out]⟩
    · go_wp2
      go_ret
      exact ⟨ret_int (by rw [← A.out, firstE_end l k (by rw [HL.out]; omega)]), hbel⟩
end Go.Proofs.YtcgpgflnihjpiagGreat
namespace Go.Proofs.YtcgpgflnihjpiagGreat
open Go.RowKit
set_option maxHeartbeats 1000000 in
theorem find_bad (a : Option Addr) (n cap : Nat) (l : List (Int × Int)) (key : Int) (w : World) (h : Rd w a n l) (hm : n ≤ 9223372036854775807) (hb : M.asked l key ≠ 0) :
    Calls Tryz.prog 132 #[.slice a n cap, .int .i64 key] w fun e w' => e = .returned (.tuple #[.int .i64 0, .int .i64 (M.asked l key)]) ∧ Below w.heap.size w w' := by
  have H := asked_any a n cap l key w h hm
  obtain ⟨c, hc⟩ : ∃ c, c = M.asked l key := ⟨_, rfl⟩
  rw [← hc] at H hb ⊢
  clear hc h
  have hne : (c != 0) = true := by simp [hb]
  clear hb
  have HH : Hid (Calls Tryz.prog 151 #[.slice a n cap, .int .i64 key] w fun e w' => e = .returned (.int .i64 c) ∧ Below w.heap.size w w') := H
  clear H
  go_enter Tryz.func132, Tryz.ntmps132
  go_wp2_with (go_at_call 151; refine HH.out.mono ?_; rintro e w' ⟨rfl, hb1⟩)
  go_ret2
  exact ⟨rfl, hb1⟩
set_option maxHeartbeats 1000000 in
theorem find_ok (a : Option Addr) (n cap : Nat) (l : List (Int × Int)) (key : Int) (w : World) (h : Rd w a n l) (hb : M.asked l key = 0) :
    Calls Tryz.prog 132 #[.slice a n cap, .int .i64 key] w fun e w' => e = .returned (.tuple #[.int .i64 (M.find key l), .int .i64 0]) ∧ Below w.heap.size w w' := by
  have hz := M.asked_zero hb
  have hz2 := (M.chk_zero l).1 hz.1
  have hn40 : n ≤ 40 := by rw [← h.1]; exact hz2.1
  have H := asked_any a n cap l key w h (by omega)
  rw [hb] at H
  have HH : Hid (Calls Tryz.prog 151 #[.slice a n cap, .int .i64 key] w fun e w' => e = .returned (.int .i64 0) ∧ Below w.heap.size w w') := H
  have HR : Hid (Rd w a n l) := h
  have HZ : Hid (M.chk l = 0) := hz.1
  have HOk : Hid (M.Ok l) := hz2.2
  clear H hb hz h hz2
  go_enter Tryz.func132, Tryz.ntmps132
  go_wp2_with fail
  refine HH.out.mono ?_
  rintro e w1 ⟨rfl, hb1⟩
  have R1 := HR.out.below hb1 (Nat.le_refl _)
  have HR1 : Hid (Rd w1 a n l) := R1
  clear R1
  go_wp2_with fail
  refine (place_any a n cap l key w1 HR1.out HZ.out).mono ?_
  rintro e w2 ⟨k, t, rfl, hat, hb2⟩
  have hb3 := hb1.trans (hb2.mono hb1.size)
  have R2 := HR1.out.below hb2 (Nat.le_refl _)
  cases t with
  | false =>
    have e1 : Hid (M.find key l = -1) := hat.find_no HOk.out
    clear hat R2
    go_wp2
    go_ret2
    exact ⟨ret_two e1.out.symm, hb3⟩
  | true =>
    have e1 : Hid (M.find key l = (l.getD k (0, 0)).2) := hat.find_yes HOk.out
    have hk := hat.yes.1
    clear hat
    rcases R2.cases with ⟨rfl, rfl⟩ | ⟨b, off, rfl, hn, hl, hB, hc⟩
    · simp at hk
    · have c1 := (hc k (by omega)).2
      obtain ⟨y, hy⟩ : ∃ y, y = (l.getD k (0, 0)).2 := ⟨_, rfl⟩
      rw [← hy] at c1
      have HY : Hid (y = (l.getD k (0, 0)).2) := hy
      have hki : (k : Int) < (n : Int) := by omega
      clear hy hc R2 hl hk
      go_wp2
      go_ret2
      exact ⟨ret_two (HY.out.trans e1.out.symm), hb3⟩
theorem find_any (a : Option Addr) (n cap : Nat) (l : List (Int × Int)) (key : Int) (w : World) (h : Rd w a n l) (hm : n ≤ 9223372036854775807) :
    Calls Tryz.prog 132 #[.slice a n cap, .int .i64 key] w fun e w' => e = .returned (.tuple #[.int .i64 (M.findV l key), .int .i64 (M.asked l key)]) ∧ Below w.heap.size w w' := by
  by_cases hb : M.asked l key = 0
  · rw [M.findV_ok hb, hb]; exact find_ok a n cap l key w h hb
  · rw [M.findV_no hb]; exact find_bad a n cap l key w h hm hb
theorem valueRight_any (v : Int) (w : World) : Calls Tryz.prog 131 #[.int .i64 v] w fun e w' => e = .returned (.bool (decide (-1 ≤ v ∧ v ≤ 996))) ∧ w' = w := by
  by_cases h1 : -1 ≤ v
  · by_cases h2 : v ≤ 996
    · rw [decide_eq_true ⟨h1, h2⟩]
      go_enter Tryz.func131, Tryz.ntmps131
      go_wp2
      go_ret
      exact ⟨rfl, rfl⟩
    · rw [decide_eq_false (fun h => h2 h.2)]
      have hd : decide (v ≤ 996) = false := by simp; omega
      go_enter Tryz.func131, Tryz.ntmps131
      go_wp2
      go_ret
      exact ⟨rfl, rfl⟩
  · rw [decide_eq_false (fun h => h1 h.1)]
    have hd : decide (-1 ≤ v) = false := by simp; omega
    go_enter Tryz.func131, Tryz.ntmps131
    go_wp2
    go_ret
    exact ⟨rfl, rfl⟩
theorem dright_none (a : Option Addr) (cap : Nat) (w : World) :
    Calls Tryz.prog 112 #[.slice a 0 cap] w fun e w' => e = .returned (.bool true) ∧ w' = w := by
  go_enter Tryz.func112, Tryz.ntmps112
  go_wp2
  refine wp_loop_rounds 1 ?_
  rw [rounds_succ]
  go_wp2
  go_ret
  exact ⟨rfl, rfl⟩
set_option maxHeartbeats 8000000 in
theorem dright_some (b off n cap : Nat) (l : List M.Chg) (w : World) (hm : n ≤ 9223372036854775807) (hl : l.length = n) (hB : b < w.heap.size)
    (hc : ∀ i, i < n → w.cell? ⟨b, off + i * 3, none⟩ = some (.int .i64 (l.getD i (0, 0, 0)).1) ∧ w.cell? ⟨b, off + i * 3 + 1, none⟩ = some (.int .i64 (l.getD i (0, 0, 0)).2.1) ∧ w.cell? ⟨b, off + i * 3 + 2, none⟩ = some (.int .i64 (l.getD i (0, 0, 0)).2.2)) :
    Calls Tryz.prog 112 #[.slice (some ⟨b, off, none⟩) n cap] w fun e w' => e = .returned (.bool (M.fine l)) ∧ Below w.heap.size w w' := by
  have HC : Aside (∀ i, i < n → w.cell? ⟨b, off + i * 3, none⟩ = some (.int .i64 (l.getD i (0, 0, 0)).1) ∧ w.cell? ⟨b, off + i * 3 + 1, none⟩ = some (.int .i64 (l.getD i (0, 0, 0)).2.1) ∧ w.cell? ⟨b, off + i * 3 + 2, none⟩ = some (.int .i64 (l.getD i (0, 0, 0)).2.2)) := hc
  have HL : Aside (l.length = n) := hl
  have HVR : Aside (∀ v W, Calls Tryz.prog 131 #[.int .i64 v] W fun e w' => e = .returned (.bool (decide (-1 ≤ v ∧ v ≤ 996))) ∧ w' = W) := valueRight_any
  clear hc hl
  go_enter Tryz.func112, Tryz.ntmps112
  go_wp2
  go_loopg [3, 8] n (fun g ah i wr => ∃ (k : Nat) (q : Int), k + g = n ∧ i = .int .i64 k ∧ ah = .int .i64 q ∧ Below w.heap.size w wr ∧ Aside (M.fineF q (l.drop k) = M.fine l))
  case atStart => exact ⟨0, -1, by omega, rfl, rfl, Below.refl _ _, by simp [Aside, M.fine]⟩
  case round =>
    obtain ⟨k, q, hk, rfl, rfl, hbel, A⟩ := hrel
    have hsz := hbel.size
    by_cases hlt : k < n
    · obtain ⟨x, y, z, hxyz⟩ : ∃ x y z, l.getD k (0, 0, 0) = (x, y, z) := ⟨_, _, _, rfl⟩
      obtain ⟨k1, k2, k3⟩ := HC.out k hlt
      rw [hxyz] at k1 k2 k3
      have c0 : wr.cell? ⟨b, off + k * 3, none⟩ = some (.int .i64 x) := (hbel.cell (p := ⟨b, off + k * 3, none⟩) hB).trans k1
      have c1 : wr.cell? ⟨b, off + k * 3 + 1, none⟩ = some (.int .i64 y) := (hbel.cell (p := ⟨b, off + k * 3 + 1, none⟩) hB).trans k2
      have c2 : wr.cell? ⟨b, off + k * 3 + 2, none⟩ = some (.int .i64 z) := (hbel.cell (p := ⟨b, off + k * 3 + 2, none⟩) hB).trans k3
      have HX : Aside (l.getD k (0, 0, 0) = (x, y, z)) := hxyz
      have hkl : Aside (k < l.length) := by unfold Aside; rw [HL.out]; exact hlt
      have hki : (k : Int) < (n : Int) := by omega
      clear hxyz k1 k2 k3
      have bad : (x ≤ q ∨ 99 < x ∨ y < -1 ∨ 996 < y ∨ z < -1 ∨ 996 < z ∨ y = z) → Aside (M.fine l = false) := fun h => A.out.symm.trans (M.fineF_bad q l k hkl.out x y z HX.out h)
      by_cases h1 : x ≤ q
      · have hd : decide (x ≤ q) = true := by simp [h1]
        have HF := bad (Or.inl h1)
        clear bad
        go_wp2
        go_ret
        exact ⟨ret_bool HF.out.symm, hbel.alloc hsz _⟩
      · have hd : decide (x ≤ q) = false := by simp; omega
        by_cases h2 : 99 < x
        · have hd2 : decide (99 < x) = true := by simp [h2]
          have HF := bad (Or.inr (Or.inl h2))
          clear bad
          go_wp2
          go_ret
          exact ⟨ret_bool HF.out.symm, hbel.alloc hsz _⟩
        · have hd2 : decide (99 < x) = false := by simp; omega
          by_cases h3 : -1 ≤ y ∧ y ≤ 996
          · have hv3 : decide (-1 ≤ y ∧ y ≤ 996) = true := decide_eq_true h3
            have C3 : Hid (∀ W, Calls Tryz.prog 131 #[.int .i64 y] W fun e w' => e = .returned (.bool true) ∧ w' = W) := fun W => by have := HVR.out y W; rwa [hv3] at this
            by_cases h4 : -1 ≤ z ∧ z ≤ 996
            · have hv4 : decide (-1 ≤ z ∧ z ≤ 996) = true := decide_eq_true h4
              have C4 : Hid (∀ W, Calls Tryz.prog 131 #[.int .i64 z] W fun e w' => e = .returned (.bool true) ∧ w' = W) := fun W => by have := HVR.out z W; rwa [hv4] at this
              by_cases h5 : y = z
              · have hd5 : (y == z) = true := by simp [h5]
                have HF := bad (by omega)
                clear bad hv3 hv4 h5 h3 h4
                go_wp2_with fail
                refine (C3.out _).mono ?_
                rintro e w1 ⟨rfl, hw⟩
                subst hw
                go_wp2_with fail
                refine (C4.out _).mono ?_
                rintro e w1 ⟨rfl, hw⟩
                subst hw
                go_wp2
                go_ret
                exact ⟨ret_bool HF.out.symm, hbel.alloc hsz _⟩
              · have hd5 : (y == z) = false := by simp [h5]
                have A2 : Aside (M.fineF x (l.drop (k + 1)) = M.fine l) := by unfold Aside; rw [← A.out, M.fineF_good q l k hkl.out x y z HX.out (by omega)]
                clear bad hv3 hv4 h5 h3 h4
                go_wp2_with fail
                refine (C3.out _).mono ?_
                rintro e w1 ⟨rfl, hw⟩
                subst hw
                go_wp2_with fail
                refine (C4.out _).mono ?_
                rintro e w1 ⟨rfl, hw⟩
                subst hw
                go_wp2
                go_roundg (gk - 1)
                case measure => omega
                case rel => exact ⟨k + 1, x, by omega, by go_num, rfl, hbel.alloc hsz _, A2⟩
            · have hv4 : decide (-1 ≤ z ∧ z ≤ 996) = false := decide_eq_false h4
              have C4 : Hid (∀ W, Calls Tryz.prog 131 #[.int .i64 z] W fun e w' => e = .returned (.bool false) ∧ w' = W) := fun W => by have := HVR.out z W; rwa [hv4] at this
              have HF := bad (by omega)
              clear bad hv3 hv4 h3 h4
              go_wp2_with fail
              refine (C3.out _).mono ?_
              rintro e w1 ⟨rfl, hw⟩
              subst hw
              go_wp2_with fail
              refine (C4.out _).mono ?_
              rintro e w1 ⟨rfl, hw⟩
              subst hw
              go_wp2
              go_ret
              exact ⟨ret_bool HF.out.symm, hbel.alloc hsz _⟩
          · have hv3 : decide (-1 ≤ y ∧ y ≤ 996) = false := decide_eq_false h3
            have C3 : Hid (∀ W, Calls Tryz.prog 131 #[.int .i64 y] W fun e w' => e = .returned (.bool false) ∧ w' = W) := fun W => by have := HVR.out y W; rwa [hv3] at this
            have HF := bad (by omega)
            clear bad hv3 h3
            go_wp2_with fail
            refine (C3.out _).mono ?_
            rintro e w1 ⟨rfl, hw⟩
            subst hw
            go_wp2
            go_ret
            exact ⟨ret_bool HF.out.symm, hbel.alloc hsz _⟩
    · go_wp2
      go_ret
      exact ⟨ret_bool (A.out.symm.trans (M.fineF_end q l k (by rw [HL.out]; omega))).symm, hbel⟩
theorem dright_any (a : Option Addr) (n cap : Nat) (l : List M.Chg) (w : World) (h : Rc w a n l) (hm : n ≤ 9223372036854775807) :
    Calls Tryz.prog 112 #[.slice a n cap] w fun e w' => e = .returned (.bool (M.fine l)) ∧ Below w.heap.size w w' := by
  rcases h.cases with ⟨rfl, rfl⟩ | ⟨b, off, rfl, hn, hl, hB, hc⟩
  · refine (dright_none a cap w).mono ?_
    rintro e w' ⟨rfl, rfl⟩
    exact ⟨rfl, Below.refl _ _⟩
  · exact dright_some b off n cap l w hm hl hB hc
theorem checkOld_none (v : Value) (a : Option Addr) (cap : Nat) (w : World) :
    Calls Tryz.prog 113 #[v, .slice a 0 cap] w fun e w' => e = .returned (.int .i64 0) ∧ w' = w := by
  go_enter Tryz.func113, Tryz.ntmps113
  go_wp2
  refine wp_loop_rounds 1 ?_
  rw [rounds_succ]
  go_wp2
  go_ret
  exact ⟨rfl, rfl⟩
set_option maxHeartbeats 4000000 in
theorem checkOld_some (a : Option Addr) (n cap : Nat) (l : List (Int × Int)) (b off m mcap : Nat) (d : List M.Chg) (w : World) (h : Rd w a n l) (hz : M.chk l = 0) (hf : M.Fine (-1) d) (hl : d.length = m) (hB : b < w.heap.size)
    (hc : ∀ i, i < m → w.cell? ⟨b, off + i * 3, none⟩ = some (.int .i64 (d.getD i (0, 0, 0)).1) ∧ w.cell? ⟨b, off + i * 3 + 1, none⟩ = some (.int .i64 (d.getD i (0, 0, 0)).2.1) ∧ w.cell? ⟨b, off + i * 3 + 2, none⟩ = some (.int .i64 (d.getD i (0, 0, 0)).2.2)) :
    Calls Tryz.prog 113 #[.slice a n cap, .slice (some ⟨b, off, none⟩) m mcap] w fun e w' => e = .returned (.int .i64 (if M.clashF l d = true then 7 else 0)) ∧ Below w.heap.size w w' := by
  have hn : n ≤ 40 := by rw [← h.1]; exact ((M.chk_zero l).1 hz).1
  have hm100 : m ≤ 100 := by have := hf.len (by omega); omega
  have HC : Aside (∀ i, i < m → w.cell? ⟨b, off + i * 3, none⟩ = some (.int .i64 (d.getD i (0, 0, 0)).1) ∧ w.cell? ⟨b, off + i * 3 + 1, none⟩ = some (.int .i64 (d.getD i (0, 0, 0)).2.1) ∧ w.cell? ⟨b, off + i * 3 + 2, none⟩ = some (.int .i64 (d.getD i (0, 0, 0)).2.2)) := hc
  have HL : Aside (d.length = m) := hl
  have HFi : Aside (M.Fine (-1) d) := hf
  have F1 : Aside (∀ W (x : Int), Below w.heap.size w W → 0 ≤ x → x ≤ 99 → Calls Tryz.prog 132 #[.slice a n cap, .int .i64 x] W fun e w' => e = .returned (.tuple #[.int .i64 (M.find x l), .int .i64 0]) ∧ Below W.heap.size W w') := fun W x hW h0 h1 => by
    have H := find_any a n cap l x W (h.below hW (Nat.le_refl _)) (by omega)
    have e := M.asked_ok hz (key := x) h0 h1
    rw [M.findV_ok e, e] at H
    exact H
  obtain ⟨r, hr⟩ : ∃ r, r = (if M.clashF l d = true then (7 : Int) else 0) := ⟨_, rfl⟩
  rw [← hr]
  have HRr : Aside (r = (if M.clashF l d = true then (7 : Int) else 0)) := hr
  clear hc hl h hz hf hr
  go_enter Tryz.func113, Tryz.ntmps113
  go_wp2
  go_loopg [11] m (fun g i wr => ∃ (k : Nat), k + g = m ∧ i = .int .i64 k ∧ Below w.heap.size w wr ∧ Aside (M.clashF l (d.drop k) = M.clashF l d))
  case atStart => exact ⟨0, by omega, rfl, Below.refl _ _, by simp [Aside]⟩
  case round =>
    obtain ⟨k, hk, rfl, hbel, A⟩ := hrel
    have hsz := hbel.size
    by_cases hlt : k < m
    · obtain ⟨x, y, z, hxyz⟩ : ∃ x y z, d.getD k (0, 0, 0) = (x, y, z) := ⟨_, _, _, rfl⟩
      obtain ⟨k1, k2, k3⟩ := HC.out k hlt
      rw [hxyz] at k1 k2 k3
      have c0 : wr.cell? ⟨b, off + k * 3, none⟩ = some (.int .i64 x) := (hbel.cell (p := ⟨b, off + k * 3, none⟩) hB).trans k1
      have c1 : wr.cell? ⟨b, off + k * 3 + 1, none⟩ = some (.int .i64 y) := (hbel.cell (p := ⟨b, off + k * 3 + 1, none⟩) hB).trans k2
      have c2 : wr.cell? ⟨b, off + k * 3 + 2, none⟩ = some (.int .i64 z) := (hbel.cell (p := ⟨b, off + k * 3 + 2, none⟩) hB).trans k3
      have hfx := HFi.out.1 _ (M.gmem d k (by rw [HL.out]; exact hlt))
      rw [hxyz] at hfx
      have hx0 : 0 ≤ x := by have := hfx.1; show 0 ≤ x; have e : (-1 : Int) < x := this; omega
      have hx1 : x ≤ 99 := hfx.2.1
      have hA := A.out
      rw [M.gdrop d k (by rw [HL.out]; exact hlt), hxyz] at hA
      have hA2 : (decide (M.find x l ≠ y) || M.clashF l (d.drop (k + 1))) = M.clashF l d := hA
      have hki : (k : Int) < (m : Int) := by omega
      obtain ⟨Wa, hWa⟩ : ∃ Wa, Wa = wr.alloc (.cells #[.int .i64 x, .int .i64 y, .int .i64 z] 64) := ⟨_, rfl⟩
      have hba : Below w.heap.size w Wa := by rw [hWa]; exact hbel.alloc hsz _
      have q1 : Wa.cell? ⟨wr.heap.size, 1, none⟩ = some (.int .i64 y) := by rw [hWa]; simp [go_sem]
      have hWs : wr.heap.size < Wa.heap.size := by rw [hWa]; simp
      obtain ⟨v, hv⟩ : ∃ v, v = M.find x l := ⟨_, rfl⟩
      rw [← hv] at hA2
      have K1 := F1.out Wa x hba hx0 hx1
      rw [← hv] at K1
      have KK : Hid (Calls Tryz.prog 132 #[.slice a n cap, .int .i64 x] Wa fun e w' => e = .returned (.tuple #[.int .i64 v, .int .i64 0]) ∧ Below Wa.heap.size Wa w') := K1
      have HA2 : Aside ((decide (v ≠ y) || M.clashF l (d.drop (k + 1))) = M.clashF l d) := hA2
      have HWa : Hid (Wa = wr.alloc (.cells #[.int .i64 x, .int .i64 y, .int .i64 z] 64)) := hWa
      have HQ1 : Hid (Wa.cell? ⟨wr.heap.size, 1, none⟩ = some (.int .i64 y)) := q1
      clear K1 hv hA hA2 hfx hxyz k1 k2 k3 hWa q1 A
      go_wp2_with fail
      rw [← HWa.out]
      refine KK.out.mono ?_
      rintro e w1 ⟨rfl, hb1⟩
      have c4 : w1.cell? ⟨wr.heap.size, 1, none⟩ = some (.int .i64 y) := (hb1.cell (p := ⟨wr.heap.size, 1, none⟩) hWs).trans HQ1.out
      have hb2 := hba.trans (hb1.mono hba.size)
      clear hb1 KK
      by_cases hvy : v = y
      · have hb : (v != y) = false := by simp [hvy]
        have A2 : Aside (M.clashF l (d.drop (k + 1)) = M.clashF l d) := by unfold Aside; rw [← HA2.out]; simp [hvy]
        clear hvy
        go_wp2
        go_roundg (gk - 1)
        case measure => omega
        case rel => exact ⟨k + 1, by omega, by go_num, hb2, A2⟩
      · have hb : (v != y) = true := by simp [hvy]
        have A2 : Aside (r = 7) := by unfold Aside; rw [HRr.out, ← HA2.out]; simp [hvy]
        clear hvy
        go_wp2
        go_ret
        exact ⟨ret_int A2.out.symm, hb2⟩
    · have A2 : Aside (r = 0) := by unfold Aside; rw [HRr.out, ← A.out, List.drop_eq_nil_of_le (by rw [HL.out]; omega)]; rfl
      go_wp2
      go_ret
      exact ⟨ret_int A2.out.symm, hbel⟩
end Go.Proofs.YtcgpgflnihjpiagGreat
namespace Go.Proofs.YtcgpgflnihjpiagGreat
namespace M
def stepT (f : Int → Int) (d : List Chg) (g : Bool) (j : Nat) : Int → Int := if g = true then tab f ((d.take j).filter gone) else tab (t1 f d) ((d.take j).filter (fun c => !gone c))
theorem stepT_mid (f : Int → Int) (d : List Chg) (m : Nat) (h : d.length = m) : stepT f d true m = stepT f d false 0 := by
  unfold stepT
  rw [if_pos rfl, if_neg (by simp), List.take_of_length_le (by omega)]
  rfl
theorem stepT_end (f : Int → Int) (d : List Chg) (hd : d.Pairwise (fun a b => a.1 < b.1)) (m : Nat) (h : d.length = m) (k : Int) : stepT f d false m k = tab f d k := by
  unfold stepT
  rw [if_neg (by simp), List.take_of_length_le (by omega)]
  exact t1_all f d hd k
theorem stepT_skip (f : Int → Int) (d : List Chg) (g : Bool) (j : Nat) (h : j < d.length) (hg : gone (d.getD j (0, 0, 0)) ≠ g) : stepT f d g (j + 1) = stepT f d g j := by
  unfold stepT
  cases g with
  | true =>
    rw [if_pos rfl, if_pos rfl, filter_take d gone j h, if_neg hg, List.append_nil]
  | false =>
    have : gone (d.getD j (0, 0, 0)) = true := by simpa using hg
    rw [if_neg (show ¬ (false = true) by decide), if_neg (show ¬ (false = true) by decide), filter_take d _ j h, if_neg (by rw [this]; decide), List.append_nil]
theorem stepT_put (f : Int → Int) (d : List Chg) (g : Bool) (j : Nat) (h : j < d.length) (hg : gone (d.getD j (0, 0, 0)) = g) (k : Int) : stepT f d g (j + 1) k = if k = (d.getD j (0, 0, 0)).1 then (d.getD j (0, 0, 0)).2.2 else stepT f d g j k := by
  unfold stepT
  cases g with
  | true =>
    rw [if_pos rfl, if_pos rfl, filter_take d gone j h, if_pos hg, tab_snoc]
  | false =>
    rw [if_neg (show ¬ (false = true) by decide), if_neg (show ¬ (false = true) by decide), filter_take d _ j h, if_pos (by rw [hg]; decide), tab_snoc]
theorem stepT_many (f : Int → Int) (d : List Chg) (hd : d.Pairwise (fun a b => a.1 < b.1)) (j : Nat) {R : List (Int × Int)} (ok : Ok R) (hR : ∀ k, find k R = stepT f d false j k) (hm : 40 < R.length) : 40 < (ofTab (tab f d)).length := by
  have e : ofTab (stepT f d false j) = R := ofTab_self ok _ fun i _ => (hR i).symm
  have h2 : (ofTab (stepT f d false j)).length ≤ (ofTab (tab f d)).length := foldTo_mono _ _ 100 fun i _ hi => by
    refine t1_le f d (d.take j) hd (List.take_sublist j d) (i : Int) ?_
    unfold stepT at hi
    rw [if_neg (by simp)] at hi
    exact hi
  rw [e] at h2
  omega
theorem put_gone_len (key : Int) (l : List (Int × Int)) : (put key (-1) l).length ≤ l.length := by
  unfold put
  rw [List.length_append, List.length_append]
  have e : own key (-1) = [] := by unfold own; simp
  rw [e]
  have : ∀ l : List (Int × Int), (lows key l).length + (highs key l).length ≤ l.length := by
    intro l
    induction l with
    | nil => simp [lows, highs]
    | cons r t ih =>
      unfold lows highs at ih ⊢
      simp only [List.filter_cons]
      by_cases h1 : r.1 < key
      · have h2 : ¬ key < r.1 := by omega
        simp [h1, h2]
        omega
      · by_cases h2 : key < r.1
        · simp [h1, h2]
          omega
        · simp [h1, h2]
          omega
  have := this l
  simp
  omega
end M
open Go.RowKit
def RdO (w : World) (B : Nat) (a : Option Addr) (n c : Nat) (R : List (Int × Int)) : Prop := R.length = n ∧ Rd w a n R ∧ Own w B (.slice a n c) R
theorem RdO.rd {w : World} {B : Nat} {a : Option Addr} {n c : Nat} {R : List (Int × Int)} (h : RdO w B a n c R) : Rd w a n R := h.2.1
theorem RdO.own {w : World} {B : Nat} {a : Option Addr} {n c : Nat} {R : List (Int × Int)} (h : RdO w B a n c R) : Own w B (.slice a n c) R := h.2.2
theorem RdO.below {w w' : World} {B : Nat} {a : Option Addr} {n c : Nat} {R : List (Int × Int)} (h : RdO w B a n c R) (hb : Below w.heap.size w w') : RdO w' B a n c R := by
  refine ⟨h.1, h.rd.below hb (Nat.le_refl _), ?_⟩
  obtain ⟨h1, h2⟩ := h.own
  refine ⟨h1, ?_⟩
  rcases h2 with h2 | ⟨g, cap, cur, hv, hg, hh, r⟩
  · exact Or.inl h2
  · exact Or.inr ⟨g, cap, cur, hv, hg, (hb.block g (Array.getElem?_eq_some_iff.1 hh).1).trans hh, r⟩
set_option maxRecDepth 100000 in
set_option maxHeartbeats 16000000 in
theorem putNew_own (a : Option Addr) (n cap : Nat) (l : List (Int × Int)) (a2 : Option Addr) (m mcap : Nat) (d : List M.Chg) (w : World) (h : Rd w a n l) (hnil : a = none → n = 0 ∧ cap = 0) (hz : M.chk l = 0) (hf : M.Fine (-1) d) (hrc : Rc w a2 m d) :
    Calls Tryz.prog 114 #[.slice a n cap, .slice a2 m mcap] w fun e w' => HandsO w w' (if 40 < (M.ofTab (M.tab (fun k => M.find k l) d)).length then [] else M.ofTab (M.tab (fun k => M.find k l) d)) (if 40 < (M.ofTab (M.tab (fun k => M.find k l) d)).length then 2 else 0) e := by
  have hzz := (M.chk_zero l).1 hz
  have hn : n ≤ 40 := by rw [← h.1]; exact hzz.1
  have hm100 : m ≤ 100 := by have := hf.len (by omega); have h1 := hrc.1; omega
  have hl := hrc.1
  have HRc : Aside (Rc w a2 m d) := hrc
  have HL : Aside (d.length = m) := hl
  have HFi : Aside (M.Fine (-1) d) := hf
  obtain ⟨T0, hT0⟩ : ∃ T0, T0 = fun k => M.find k l := ⟨_, rfl⟩
  rw [← hT0]
  have HT0 : Aside (∀ k, M.find k l = T0 k) := fun k => by rw [hT0]
  obtain ⟨F, hF⟩ : ∃ F, F = M.ofTab (M.tab T0 d) := ⟨_, rfl⟩
  rw [← hF]
  have HF : Aside (F = M.ofTab (M.tab T0 d)) := hF
  obtain ⟨LR, hLR⟩ : ∃ LR, LR = (if 40 < F.length then [] else F) := ⟨_, rfl⟩
  obtain ⟨ER, hER⟩ : ∃ ER : Int, ER = (if 40 < F.length then 2 else 0) := ⟨_, rfl⟩
  rw [← hLR, ← hER]
  have HLR : Aside (LR = (if 40 < F.length then [] else F)) := hLR
  have HER : Aside (ER = (if 40 < F.length then 2 else 0)) := hER
  have HCl := cloned_any a n cap l w (by omega) h hnil
  have HCC : Hid (Calls Tryz.prog 94 #[.slice a n cap] w fun e w' => ∃ v, e = .returned v ∧ Own w' w.heap.size v l ∧ Below w.heap.size w w') := HCl
  have HOk : Aside (M.Ok l ∧ l.length ≤ 40) := ⟨hzz.2, hzz.1⟩
  clear hrc hl h hz hf hT0 hF hLR hER HCl hzz hnil
  go_enter Tryz.func114, Tryz.ntmps114
  go_wp2_with fail
  refine HCC.out.mono ?_
  rintro e w1 ⟨v, rfl, hown, hb1⟩
  obtain ⟨a1, c1, rfl, hrd1, hlc1, hcm1, hnil1⟩ := hown.rd
  obtain ⟨Wb, hWb⟩ : ∃ Wb, Wb = w1.alloc (.cells #[.bool true, .bool false] 4) := ⟨_, rfl⟩
  have hbb : Below w1.heap.size w1 Wb := by rw [hWb]; exact (Below.refl _ _).alloc (Nat.le_refl _) _
  have hg0 : Wb.cell? ⟨w1.heap.size, 0, none⟩ = some (.bool true) := by rw [hWb]; simp [go_sem]
  have hg1 : Wb.cell? ⟨w1.heap.size, 1, none⟩ = some (.bool false) := by rw [hWb]; simp [go_sem]
  have hgl : w1.heap.size < Wb.heap.size := by rw [hWb]; simp
  have HG : Aside (∀ p, p < 2 → Wb.cell? ⟨w1.heap.size, p, none⟩ = some (.bool (decide (p = 0)))) := fun p hp => by
    match p, hp with
    | 0, _ => exact hg0
    | 1, _ => exact hg1
  have HWb : Hid (Wb = w1.alloc (.cells #[.bool true, .bool false] 4)) := hWb
  have hbw : Below w.heap.size w Wb := hb1.trans (hbb.mono hb1.size)
  have HR0 : Aside (RdO Wb w.heap.size a1 l.length c1 l) := RdO.below ⟨rfl, hrd1, hown⟩ hbb
  have HN1 : Aside (a1 = none → l.length = 0 ∧ c1 = 0) := hnil1
  clear HCC hown hrd1 hWb hbb hg0 hg1 hnil1
  obtain ⟨G, hGe⟩ : ∃ G, G = w1.heap.size := ⟨_, rfl⟩
  rw [← hGe] at hgl HG
  have HGe : Hid (G = w1.heap.size) := hGe
  have hGw : w.heap.size ≤ G := by rw [hGe]; exact hb1.size
  clear hGe hb1
  go_wp2
  rw [← HWb.out, ← HGe.out]
  go_loopg [6, 16] 2 (fun g vo ix wr => ∃ (p : Nat) (ao : Option Addr) (no co : Nat) (R : List (Int × Int)), p + g = 2 ∧ ix = .int .i64 p ∧ vo = .slice ao no co ∧ no ≤ 40 ∧ no ≤ co ∧ co ≤ maxLen ∧ Aside (ao = none → no = 0 ∧ co = 0) ∧ Aside (RdO wr w.heap.size ao no co R) ∧ Aside (M.Ok R) ∧ Aside (∀ k, M.find k R = (if p = 2 then M.stepT T0 d false m else M.stepT T0 d (decide (p = 0)) 0) k) ∧ Aside (Wb.heap.size ≤ wr.heap.size ∧ Below Wb.heap.size Wb wr) ∧ Below w.heap.size w wr)
  case atStart => exact ⟨0, a1, l.length, c1, l, by omega, rfl, rfl, HOk.out.2, hlc1, hcm1, HN1, HR0, HOk.out.1, fun k => by rw [if_neg (by omega)]; exact HT0.out k, ⟨Nat.le_refl _, Below.refl _ _⟩, hbw⟩
  case round =>
    obtain ⟨p, ao, no, co, R, hpg, rfl, rfl, hno, hnc, hcm, HN, HR, HRO, HT, HBW, hbel⟩ := hrel
    by_cases hp : p < 2
    · have hpi : (p : Int) < 2 := by omega
      have cg : wr.cell? ⟨G, p, none⟩ = some (.bool (decide (p = 0))) := (HBW.out.2.cell (p := ⟨G, p, none⟩) hgl).trans (HG.out p hp)
      obtain ⟨q, hq⟩ : ∃ q, decide (p = 0) = q := ⟨_, rfl⟩
      rw [hq] at cg
      have HQ : Aside (decide (p = 0) = q) := hq
      have HT2 : Aside (∀ k, M.find k R = M.stepT T0 d q 0 k) := fun k => by have h := HT.out k; rw [if_neg (by omega), hq] at h; exact h
      have hbel0 := hbel
      clear hq HT hbel
      go_wp2
      go_loopg [6, 22] m (fun g vo ix ws => ∃ (j : Nat) (ao : Option Addr) (no co : Nat) (R : List (Int × Int)), j + g = m ∧ ix = .int .i64 j ∧ vo = .slice ao no co ∧ no ≤ 40 ∧ no ≤ co ∧ co ≤ maxLen ∧ Aside (ao = none → no = 0 ∧ co = 0) ∧ Aside (RdO ws w.heap.size ao no co R) ∧ Aside (M.Ok R) ∧ Aside (∀ k, M.find k R = M.stepT T0 d q j k) ∧ Aside (Wb.heap.size ≤ ws.heap.size ∧ Below Wb.heap.size Wb ws) ∧ Below w.heap.size w ws)
      case atStart => exact ⟨0, ao, no, co, R, by omega, rfl, rfl, hno, hnc, hcm, HN, HR, HRO, HT2, HBW, hbel0⟩
      case round =>
        clear HN HR HRO HT2 HBW hbel0 hno hnc hcm
        obtain ⟨j, ao, no, co, R, hjg, rfl, rfl, hno, hnc, hcm, HN, HR, HRO, HT, HBW, hbel⟩ := hrel
        have hsz := hbel.size
        by_cases hj : j < m
        · have hji : (j : Int) < (m : Int) := by omega
          obtain ⟨x, y, z, hxyz⟩ : ∃ x y z, d.getD j (0, 0, 0) = (x, y, z) := ⟨_, _, _, rfl⟩
          obtain ⟨b, off, rfl, hB, hcc⟩ : ∃ b off, a2 = some ⟨b, off, none⟩ ∧ b < w.heap.size ∧ ∀ i, i < m → w.cell? ⟨b, off + i * 3, none⟩ = some (.int .i64 (d.getD i (0, 0, 0)).1) ∧ w.cell? ⟨b, off + i * 3 + 1, none⟩ = some (.int .i64 (d.getD i (0, 0, 0)).2.1) ∧ w.cell? ⟨b, off + i * 3 + 2, none⟩ = some (.int .i64 (d.getD i (0, 0, 0)).2.2) := by
            rcases HRc.out.cases with ⟨h0, _⟩ | ⟨b, off, e, _, _, hB, hcc⟩
            · omega
            · exact ⟨b, off, e, hB, hcc⟩
          obtain ⟨k1, k2, k3⟩ := hcc j hj
          clear hcc
          rw [hxyz] at k1 k2 k3
          have c0 : wr.cell? ⟨b, off + j * 3, none⟩ = some (.int .i64 x) := (hbel.cell (p := ⟨b, off + j * 3, none⟩) hB).trans k1
          have c1 : wr.cell? ⟨b, off + j * 3 + 1, none⟩ = some (.int .i64 y) := (hbel.cell (p := ⟨b, off + j * 3 + 1, none⟩) hB).trans k2
          have c2 : wr.cell? ⟨b, off + j * 3 + 2, none⟩ = some (.int .i64 z) := (hbel.cell (p := ⟨b, off + j * 3 + 2, none⟩) hB).trans k3
          have hjd : j < d.length := by rw [HL.out]; exact hj
          have hfx := HFi.out.1 _ (M.gmem d j hjd)
          rw [hxyz] at hfx
          have hx0 : 0 ≤ x := by have e : (-1 : Int) < x := hfx.1; omega
          have hx1 : x ≤ 99 := hfx.2.1
          have hz0 : -1 ≤ z := hfx.2.2.2.2.1
          have hz1 : z ≤ 996 := hfx.2.2.2.2.2.1
          have hgo : M.gone (d.getD j (0, 0, 0)) = decide (z = -1) := by rw [hxyz]; rfl
          obtain ⟨Wa, hWa⟩ : ∃ Wa, Wa = wr.alloc (.cells #[.int .i64 x, .int .i64 y, .int .i64 z] 64) := ⟨_, rfl⟩
          have hba : Below wr.heap.size wr Wa := by rw [hWa]; exact (Below.refl _ _).alloc (Nat.le_refl _) _
          have hbwa : Below w.heap.size w Wa := hbel.trans (hba.mono hsz)
          have HWa : Hid (Wa = wr.alloc (.cells #[.int .i64 x, .int .i64 y, .int .i64 z] 64)) := hWa
          have HRa : Aside (RdO Wa w.heap.size ao no co R) := HR.out.below hba
          have HBWa : Aside (Wb.heap.size ≤ Wa.heap.size ∧ Below Wb.heap.size Wb Wa) := ⟨Nat.le_trans HBW.out.1 hba.size, HBW.out.2.trans (hba.mono HBW.out.1)⟩
          by_cases hsel : decide (z = -1) = q
          · -- its turn
            have hzb : (z == -1) = q := by rw [← hsel]; rfl
            have HStep : Aside (∀ k, M.find k (M.put x z R) = M.stepT T0 d q (j + 1) k) := fun k => by
              rw [M.stepT_put T0 d q j hjd (hgo.trans hsel), hxyz]
              by_cases e : k = x
              · subst e; rw [if_pos rfl, M.find_put_same HRO.out hx0 hx1 hz0 hz1]
              · rw [if_neg e, M.find_put_other HRO.out hx0 hx1 hz0 hz1 e]; exact HT.out k
            have HPO : Aside (M.Ok (M.put x z R)) := M.put_ok HRO.out hx0 hx1 hz0 hz1
            have hchk : M.chk R = 0 := (M.chk_zero R).2 ⟨by rw [HR.out.1]; exact hno, HRO.out⟩
            have hask : M.asked R x = 0 := M.asked_ok hchk hx0 hx1
            have HP := put_own ao no co R x z Wa HRa.out.rd hnc hcm HN.out
            by_cases hlen : (M.put x z R).length ≤ 40
            · have e1 := M.putE_ok hask hz0 hz1 hlen
              rw [M.putV_ok e1, e1] at HP
              have HPP : Hid (Calls Tryz.prog 133 #[.slice ao no co, .int .i64 x, .int .i64 z] Wa fun e w' => HandsO Wa w' (M.put x z R) 0 e) := HP
              clear HP hgo hsel hxyz k1 k2 k3 hfx hWa hba hchk hask e1 hjd HT HR HRO HN HBW HRa
              cases q with
              | true =>
                go_wp2_with fail
                rw [← HWa.out]
                refine HPP.out.mono ?_
                rintro e w3 ⟨a3, n3, c3, rfl, hr3, hn3, hc3, hz3, hb3⟩
                have HR3 : Aside (RdO w3 w.heap.size a3 n3 c3 (M.put x z R)) := ⟨hr3.1, hr3, hz3.2.lower hbwa.size⟩
                have HN3 : Aside (a3 = none → n3 = 0 ∧ c3 = 0) := hz3.1
                have hn340 : n3 ≤ 40 := by rw [← hr3.1]; exact hlen
                have hb4 := hbwa.trans (hb3.mono hbwa.size)
                have HBW3 : Aside (Wb.heap.size ≤ w3.heap.size ∧ Below Wb.heap.size Wb w3) := ⟨Nat.le_trans HBWa.out.1 hb3.size, HBWa.out.2.trans (hb3.mono HBWa.out.1)⟩
                clear hr3 hz3 hb3 HPP
                go_wp2
                go_roundg (gk - 1)
                case measure => omega
                case rel => exact ⟨j + 1, a3, n3, c3, M.put x z R, by omega, by go_num, rfl, hn340, hn3, hc3, HN3, HR3, HPO, HStep, HBW3, hb4⟩
              | false =>
                go_wp2_with fail
                rw [← HWa.out]
                refine HPP.out.mono ?_
                rintro e w3 ⟨a3, n3, c3, rfl, hr3, hn3, hc3, hz3, hb3⟩
                have HR3 : Aside (RdO w3 w.heap.size a3 n3 c3 (M.put x z R)) := ⟨hr3.1, hr3, hz3.2.lower hbwa.size⟩
                have HN3 : Aside (a3 = none → n3 = 0 ∧ c3 = 0) := hz3.1
                have hn340 : n3 ≤ 40 := by rw [← hr3.1]; exact hlen
                have hb4 := hbwa.trans (hb3.mono hbwa.size)
                have HBW3 : Aside (Wb.heap.size ≤ w3.heap.size ∧ Below Wb.heap.size Wb w3) := ⟨Nat.le_trans HBWa.out.1 hb3.size, HBWa.out.2.trans (hb3.mono HBWa.out.1)⟩
                clear hr3 hz3 hb3 HPP
                go_wp2
                go_roundg (gk - 1)
                case measure => omega
                case rel => exact ⟨j + 1, a3, n3, c3, M.put x z R, by omega, by go_num, rfl, hn340, hn3, hc3, HN3, HR3, HPO, HStep, HBW3, hb4⟩
            · have hqf : q = false := by
                cases hq2 : q with
                | false => rfl
                | true =>
                  rw [hq2] at hsel
                  have hzz : z = -1 := by simpa using hsel
                  have h1 := M.put_gone_len x R
                  rw [← hzz, HR.out.1] at h1
                  omega
              have e1 := M.putE_many hask hz0 hz1 (by omega)
              rw [M.putV_no (by rw [e1]; omega), e1] at HP
              have HPP : Hid (Calls Tryz.prog 133 #[.slice ao no co, .int .i64 x, .int .i64 z] Wa fun e w' => HandsO Wa w' [] 2 e) := HP
              have hbig : 40 < F.length := by
                rw [HF.out]
                refine M.stepT_many T0 d HFi.out.2 (j + 1) HPO.out (fun k => ?_) (by omega)
                rw [← hqf]; exact HStep.out k
              have HLR2 : Aside (LR = []) := by unfold Aside; rw [HLR.out, if_pos hbig]
              have HER2 : Aside (ER = 2) := by unfold Aside; rw [HER.out, if_pos hbig]
              subst hqf
              clear HP hgo hsel hxyz k1 k2 k3 hfx hWa hba hchk hask e1 hjd HT HR HRO HN HBW HRa hbig hlen HStep HPO
              go_wp2_with fail
              rw [← HWa.out]
              refine HPP.out.mono ?_
              rintro e w3 ⟨a3, n3, c3, rfl, hr3, hn3, hc3, hz3, hb3⟩
              have hb4 := hbwa.trans (hb3.mono hbwa.size)
              clear hr3 hz3 hb3 HPP
              go_wp2
              go_ret2
              rw [HLR2.out, HER2.out]
              exact HandsO.err 2 hb4
          · have hzb : (z == -1) = !q := by
              have : decide (z = -1) = !q := by cases q <;> simp_all
              rw [← this]; rfl
            have HStep : Aside (∀ k, M.find k R = M.stepT T0 d q (j + 1) k) := fun k => by
              rw [M.stepT_skip T0 d q j hjd (fun e => hsel (hgo.symm.trans e))]; exact HT.out k
            rw [HWa.out] at HRa HBWa hbwa
            clear hgo hsel hxyz k1 k2 k3 hfx hWa hba hjd HT HR HBW
            cases q with
            | true =>
              go_wp2
              go_roundg (gk - 1)
              case measure => omega
              case rel => exact ⟨j + 1, ao, no, co, R, by omega, by go_num, rfl, hno, hnc, hcm, HN, HRa, HRO, HStep, HBWa, hbwa⟩
            | false =>
              go_wp2
              go_roundg (gk - 1)
              case measure => omega
              case rel => exact ⟨j + 1, ao, no, co, R, by omega, by go_num, rfl, hno, hnc, hcm, HN, HRa, HRO, HStep, HBWa, hbwa⟩
        · obtain rfl : j = m := by omega
          have HT3 : Aside (∀ k, M.find k R = (if p + 1 = 2 then M.stepT T0 d false j else M.stepT T0 d (decide (p + 1 = 0)) 0) k) := fun k => by
            have hq := HQ.out
            by_cases h0 : p = 0
            · have : q = true := by rw [← hq]; simp [h0]
              subst this
              rw [if_neg (by omega), decide_eq_false (by omega), ← M.stepT_mid T0 d j HL.out]
              exact HT.out k
            · have : q = false := by rw [← hq]; simp [h0]
              subst this
              rw [if_pos (by omega)]
              exact HT.out k
          go_wp2
          go_roundg (2 - (p + 1))
          case measure => omega
          case rel => exact ⟨p + 1, ao, no, co, R, by omega, by go_num, rfl, hno, hnc, hcm, HN, HR, HRO, HT3, HBW, hbel⟩
    · obtain rfl : p = 2 := by omega
      have eR : R = F := by
        rw [HF.out]
        refine (M.ofTab_self HRO.out _ fun i _ => ?_).symm
        have h := HT.out i
        rw [if_pos rfl, M.stepT_end T0 d HFi.out.2 m HL.out] at h
        exact h.symm
      have hF40 : ¬ 40 < F.length := by rw [← eR, HR.out.1]; omega
      have HLR2 : Aside (LR = R) := by unfold Aside; rw [HLR.out, if_neg hF40, eR]
      have HER2 : Aside (ER = 0) := by unfold Aside; rw [HER.out, if_neg hF40]
      clear eR hF40
      go_wp2
      go_ret2
      rw [HLR2.out, HER2.out]
      exact ⟨ao, no, co, rfl, HR.out.rd, hnc, hcm, ⟨HN.out, HR.out.own⟩, hbel⟩
theorem checkOld_any (a : Option Addr) (n cap : Nat) (l : List (Int × Int)) (a2 : Option Addr) (m mcap : Nat) (d : List M.Chg) (w : World) (h : Rd w a n l) (hz : M.chk l = 0) (hf : M.Fine (-1) d) (hrc : Rc w a2 m d) :
    Calls Tryz.prog 113 #[.slice a n cap, .slice a2 m mcap] w fun e w' => e = .returned (.int .i64 (if M.clashF l d = true then 7 else 0)) ∧ Below w.heap.size w w' := by
  rcases hrc.cases with ⟨rfl, rfl⟩ | ⟨b, off, rfl, hn, hl, hB, hc⟩
  · refine (checkOld_none _ a2 mcap w).mono ?_
    rintro e w' ⟨rfl, rfl⟩
    exact ⟨rfl, Below.refl _ _⟩
  · exact checkOld_some a n cap l b off m mcap d w h hz hf hl hB hc
set_option maxHeartbeats 4000000 in
theorem patch_own (a : Option Addr) (n cap : Nat) (l : List (Int × Int)) (a2 : Option Addr) (m mcap : Nat) (d : List M.Chg) (w : World) (h : Rd w a n l) (hn : n ≤ 9223372036854775807) (hnil : a = none → n = 0 ∧ cap = 0) (hrc : Rc w a2 m d) (hm : m ≤ 9223372036854775807) :
    Calls Tryz.prog 73 #[.slice a n cap, .slice a2 m mcap] w fun e w' => HandsO w w' (M.patchV l d) (M.patchE l d) e := by
  have HR : Hid (Rd w a n l) := h
  have HD : Hid (Rc w a2 m d) := hrc
  have HK := check_any a n cap l w h hn
  by_cases hz : M.chk l = 0
  · rw [hz] at HK
    have HKK : Hid (Calls Tryz.prog 47 #[.slice a n cap] w fun e w' => e = .returned (.int .i64 0) ∧ Below w.heap.size w w') := HK
    have HZ : Hid (M.chk l = 0) := hz
    clear HK h hrc
    by_cases hf : M.fine d = true
    · have HFi : Hid (M.Fine (-1) d) := (M.fine_iff d).1 hf
      have HFt : Hid (M.fine d = true) := hf
      cases hcl : M.clashF l d with
      | true =>
        have e1 : M.patchE l d = 7 := by unfold M.patchE; rw [hz, hf, hcl]; simp
        have e2 : M.patchV l d = [] := by unfold M.patchV; rw [e1]; simp
        rw [e1, e2]
        have HCl : Hid (M.clashF l d = true) := hcl
        clear e1 e2 hcl hf hz
        go_enter Tryz.func73, Tryz.ntmps73
        go_wp2_with fail
        refine HKK.out.mono ?_
        rintro e w1 ⟨rfl, hb1⟩
        have K2 := dright_any a2 m mcap d w1 (HD.out.below hb1 (Nat.le_refl _)) hm
        rw [HFt.out] at K2
        have KK2 : Hid (Calls Tryz.prog 112 #[.slice a2 m mcap] w1 fun e w' => e = .returned (.bool true) ∧ Below w1.heap.size w1 w') := K2
        clear K2
        go_wp2_with fail
        refine KK2.out.mono ?_
        rintro e w2 ⟨rfl, hb2⟩
        have c2 := hb1.trans (hb2.mono hb1.size)
        have K3 := checkOld_any a n cap l a2 m mcap d w2 (HR.out.below c2 (Nat.le_refl _)) HZ.out HFi.out (HD.out.below c2 (Nat.le_refl _))
        rw [HCl.out, if_pos rfl] at K3
        have KK3 : Hid (Calls Tryz.prog 113 #[.slice a n cap, .slice a2 m mcap] w2 fun e w' => e = .returned (.int .i64 7) ∧ Below w2.heap.size w2 w') := K3
        clear K3 hb1 hb2
        go_wp2_with fail
        refine KK3.out.mono ?_
        rintro e w3 ⟨rfl, hb3⟩
        have c3 := c2.trans (hb3.mono c2.size)
        go_wp2
        go_ret2
        exact HandsO.err 7 c3
      | false =>
        obtain ⟨LR, hLR⟩ : ∃ LR, LR = M.patchV l d := ⟨_, rfl⟩
        obtain ⟨ER, hER⟩ : ∃ ER, ER = M.patchE l d := ⟨_, rfl⟩
        rw [← hLR, ← hER]
        have e1 : ER = (if 40 < (M.ofTab (M.tab (fun k => M.find k l) d)).length then 2 else 0) := by rw [hER]; unfold M.patchE; rw [hz, hf, hcl]; simp
        have e2 : LR = (if 40 < (M.ofTab (M.tab (fun k => M.find k l) d)).length then [] else M.ofTab (M.tab (fun k => M.find k l) d)) := by
          rw [hLR]
          unfold M.patchV
          rw [← hER, e1]
          by_cases h4 : 40 < (M.ofTab (M.tab (fun k => M.find k l) d)).length
          · rw [if_pos h4, if_pos h4]; simp
          · rw [if_neg h4, if_neg h4]; simp
        have HE1 : Hid (ER = (if 40 < (M.ofTab (M.tab (fun k => M.find k l) d)).length then 2 else 0)) := e1
        have HE2 : Hid (LR = (if 40 < (M.ofTab (M.tab (fun k => M.find k l) d)).length then [] else M.ofTab (M.tab (fun k => M.find k l) d))) := e2
        have HCl : Hid (M.clashF l d = false) := hcl
        clear e1 e2 hcl hf hz hLR hER
        go_enter Tryz.func73, Tryz.ntmps73
        go_wp2_with fail
        refine HKK.out.mono ?_
        rintro e w1 ⟨rfl, hb1⟩
        have K2 := dright_any a2 m mcap d w1 (HD.out.below hb1 (Nat.le_refl _)) hm
        rw [HFt.out] at K2
        have KK2 : Hid (Calls Tryz.prog 112 #[.slice a2 m mcap] w1 fun e w' => e = .returned (.bool true) ∧ Below w1.heap.size w1 w') := K2
        clear K2
        go_wp2_with fail
        refine KK2.out.mono ?_
        rintro e w2 ⟨rfl, hb2⟩
        have c2 := hb1.trans (hb2.mono hb1.size)
        have K3 := checkOld_any a n cap l a2 m mcap d w2 (HR.out.below c2 (Nat.le_refl _)) HZ.out HFi.out (HD.out.below c2 (Nat.le_refl _))
        rw [HCl.out, if_neg (by simp)] at K3
        have KK3 : Hid (Calls Tryz.prog 113 #[.slice a n cap, .slice a2 m mcap] w2 fun e w' => e = .returned (.int .i64 0) ∧ Below w2.heap.size w2 w') := K3
        clear K3 hb1 hb2
        go_wp2_with fail
        refine KK3.out.mono ?_
        rintro e w3 ⟨rfl, hb3⟩
        have c3 := c2.trans (hb3.mono c2.size)
        have K4 := putNew_own a n cap l a2 m mcap d w3 (HR.out.below c3 (Nat.le_refl _)) hnil HZ.out HFi.out (HD.out.below c3 (Nat.le_refl _))
        rw [← HE1.out, ← HE2.out] at K4
        have KK4 : Hid (Calls Tryz.prog 114 #[.slice a n cap, .slice a2 m mcap] w3 fun e w' => HandsO w3 w' LR ER e) := K4
        clear K4 hb3 c2
        go_wp2_with fail
        refine KK4.out.mono ?_
        rintro e w4 ⟨a4, n4, c4, rfl, hr4, hn4, hc4, hz4, hb4⟩
        have HR4 : Hid (Rd w4 a4 n4 LR) := hr4
        have HZ4 : Hid ((a4 = none → n4 = 0 ∧ c4 = 0) ∧ Own w4 w.heap.size (.slice a4 n4 c4) LR) := ⟨hz4.1, hz4.2.lower c3.size⟩
        have c5 := c3.trans (hb4.mono c3.size)
        clear hr4 hz4 hb4
        go_wp2
        go_ret2
        exact ⟨a4, n4, c4, rfl, HR4.out, hn4, hc4, HZ4.out, c5⟩
    · have e1 : M.patchE l d = 1 := by unfold M.patchE; rw [hz]; simp [hf]
      have e2 : M.patchV l d = [] := by unfold M.patchV; rw [e1]; simp
      rw [e1, e2]
      have HFt : Hid (M.fine d = false) := by unfold Hid; simpa using hf
      clear e1 e2 hf hz
      go_enter Tryz.func73, Tryz.ntmps73
      go_wp2_with fail
      refine HKK.out.mono ?_
      rintro e w1 ⟨rfl, hb1⟩
      have K2 := dright_any a2 m mcap d w1 (HD.out.below hb1 (Nat.le_refl _)) hm
      rw [HFt.out] at K2
      have KK2 : Hid (Calls Tryz.prog 112 #[.slice a2 m mcap] w1 fun e w' => e = .returned (.bool false) ∧ Below w1.heap.size w1 w') := K2
      clear K2
      go_wp2_with fail
      refine KK2.out.mono ?_
      rintro e w2 ⟨rfl, hb2⟩
      have c2 := hb1.trans (hb2.mono hb1.size)
      go_wp2
      go_ret2
      exact HandsO.err 1 c2
  · have e1 : M.patchE l d = M.chk l := by unfold M.patchE; rw [if_pos hz]
    have e2 : M.patchV l d = [] := by unfold M.patchV; rw [if_neg (by rw [e1]; exact hz)]
    rw [e1, e2]
    obtain ⟨c, hc⟩ : ∃ c, c = M.chk l := ⟨_, rfl⟩
    rw [← hc] at HK hz ⊢
    have hne : (c != 0) = true := by simp [hz]
    have HKK : Hid (Calls Tryz.prog 47 #[.slice a n cap] w fun e w' => e = .returned (.int .i64 c) ∧ Below w.heap.size w w') := HK
    clear HK h hrc hz hc e1 e2
    go_enter Tryz.func73, Tryz.ntmps73
    go_wp2_with fail
    refine HKK.out.mono ?_
    rintro e w1 ⟨rfl, hb1⟩
    go_wp2
    go_ret2
    exact HandsO.err c hb1
end Go.Proofs.YtcgpgflnihjpiagGreat
namespace Go.Proofs.YtcgpgflnihjpiagGreat
open Go.RowKit
end Go.Proofs.YtcgpgflnihjpiagGreat
namespace Go.Proofs.YtcgpgflnihjpiagGreat
namespace M
def swapC (c : Chg) : Chg := (c.1, c.2.2, c.2.1)
def backE (d : List Chg) : Int := if fine d = true then 0 else 1
def backV (d : List Chg) : List Chg := if fine d = true then d.map swapC else []
theorem map_take (d : List Chg) (k : Nat) (h : k < d.length) : (d.take (k + 1)).map swapC = (d.take k).map swapC ++ [swapC (d.getD k (0, 0, 0))] := by
  rw [List.take_succ_eq_append_getElem h, List.map_append]
  simp [List.getD, h]
end M
open Go.RowKit Go.Maps
def HandsC (w w' : World) (L : List M.Chg) (E : Int) (e : Ending) : Prop := ∃ a n cap, e = .returned (.tuple #[.slice a n cap, .int .i64 E]) ∧ Rc w' a n L ∧ n ≤ cap ∧ cap ≤ maxLen ∧ Below w.heap.size w w'
theorem HandsC.err {w w' : World} (E : Int) (hb : Below w.heap.size w w') : HandsC w w' [] E (.returned (.tuple #[.slice none 0 0, .int .i64 E])) := ⟨none, 0, 0, rfl, ⟨rfl, Or.inl rfl⟩, Nat.le_refl _, by simp [maxLen], hb⟩
set_option maxHeartbeats 4000000 in
theorem back_any (a : Option Addr) (n cap : Nat) (d : List M.Chg) (w : World) (h : Rc w a n d) (hm : n ≤ 9223372036854775807) :
    Calls Tryz.prog 70 #[.slice a n cap] w fun e w' => HandsC w w' (M.backV d) (M.backE d) e := by
  have K := dright_any a n cap d w h hm
  by_cases hf : M.fine d = true
  · have e1 : M.backE d = 0 := by unfold M.backE; rw [if_pos hf]
    have e2 : M.backV d = d.map M.swapC := by unfold M.backV; rw [if_pos hf]
    rw [e1, e2]
    rw [hf] at K
    have KK : Hid (Calls Tryz.prog 112 #[.slice a n cap] w fun e w' => e = .returned (.bool true) ∧ Below w.heap.size w w') := K
    have hn100 : n ≤ 100 := by have := ((M.fine_iff d).1 hf).len (by omega); have h1 := h.1; omega
    have HR : Aside (Rc w a n d) := h
    clear K h hf e1 e2
    go_enter Tryz.func70, Tryz.ntmps70
    go_wp2_with fail
    refine KK.out.mono ?_
    rintro e w1 ⟨rfl, hb1⟩
    have HR1 : Aside (Rc w1 a n d) := HR.out.below hb1 (Nat.le_refl _)
    have hs1 := hb1.size
    clear KK HR
    go_wp2
    go_loopg [4, 12] n (fun g v ix wr => ∃ i : Nat, i + g = n ∧ ix = .int .i64 i ∧ Aside (OwnC wr w1.heap.size v ((d.take i).map M.swapC)) ∧ Below w1.heap.size w1 wr)
    case atStart => exact ⟨0, by omega, rfl, OwnC.nil _ _, Below.refl _ _⟩
    case round =>
      obtain ⟨i, hig, rfl, HO, hbel⟩ := hrel
      have hsz := hbel.size
      by_cases hlt : i < n
      · have hii : (i : Int) < (n : Int) := by omega
        obtain ⟨b, off, rfl, hB, hc⟩ : ∃ b off, a = some ⟨b, off, none⟩ ∧ b < w1.heap.size ∧ ∀ i, i < n → w1.cell? ⟨b, off + i * 3, none⟩ = some (.int .i64 (d.getD i (0, 0, 0)).1) ∧ w1.cell? ⟨b, off + i * 3 + 1, none⟩ = some (.int .i64 (d.getD i (0, 0, 0)).2.1) ∧ w1.cell? ⟨b, off + i * 3 + 2, none⟩ = some (.int .i64 (d.getD i (0, 0, 0)).2.2) := by
          rcases HR1.out.cases with ⟨h0, _⟩ | ⟨b, off, e, _, _, hB, hc⟩
          · omega
          · exact ⟨b, off, e, hB, hc⟩
        obtain ⟨x, y, z, hxyz⟩ : ∃ x y z, d.getD i (0, 0, 0) = (x, y, z) := ⟨_, _, _, rfl⟩
        obtain ⟨k1, k2, k3⟩ := hc i hlt
        rw [hxyz] at k1 k2 k3
        have p0 : wr.cell? ⟨b, off + i * 3, none⟩ = some (.int .i64 x) := (hbel.cell (p := ⟨b, off + i * 3, none⟩) hB).trans k1
        have p1 : wr.cell? ⟨b, off + i * 3 + 1, none⟩ = some (.int .i64 y) := (hbel.cell (p := ⟨b, off + i * 3 + 1, none⟩) hB).trans k2
        have p2 : wr.cell? ⟨b, off + i * 3 + 2, none⟩ = some (.int .i64 z) := (hbel.cell (p := ⟨b, off + i * 3 + 2, none⟩) hB).trans k3
        have HMt : Aside ((d.take (i + 1)).map M.swapC = (d.take i).map M.swapC ++ [(x, z, y)]) := by unfold Aside; rw [M.map_take d i (by rw [HR1.out.1]; exact hlt), hxyz]; rfl
        have HLe : Aside (((d.take i).map M.swapC).length + 1 ≤ 1000000) := by unfold Aside; rw [List.length_map, List.length_take]; omega
        obtain ⟨Wb, hWb⟩ : ∃ Wb, Wb = (wr.alloc (.cells #[.int .i64 x, .int .i64 y, .int .i64 z] 64)).alloc (.cells #[.int .i64 x, .int .i64 z, .int .i64 y] 64) := ⟨_, rfl⟩
        have hbb : Below wr.heap.size wr Wb := by rw [hWb]; exact ((Below.refl _ _).alloc (Nat.le_refl _) _).alloc (by simp) _
        have HOb : Aside (OwnC Wb w1.heap.size u4 ((d.take i).map M.swapC)) := HO.out.below hbb
        have hbw : Below w1.heap.size w1 Wb := hbel.trans (hbb.mono hsz)
        have HCb : Hid (∀ j, j < 1 → Wb.cell? ⟨wr.heap.size + 1, 0 + j * 3, none⟩ = some (.int .i64 (([(x, z, y)] : List M.Chg).getD j (0, 0, 0)).1) ∧ Wb.cell? ⟨wr.heap.size + 1, 0 + j * 3 + 1, none⟩ = some (.int .i64 (([(x, z, y)] : List M.Chg).getD j (0, 0, 0)).2.1) ∧ Wb.cell? ⟨wr.heap.size + 1, 0 + j * 3 + 2, none⟩ = some (.int .i64 (([(x, z, y)] : List M.Chg).getD j (0, 0, 0)).2.2)) := by rw [hWb, show wr.heap.size + 1 = (wr.alloc (.cells #[.int .i64 x, .int .i64 y, .int .i64 z] 64)).heap.size by simp]; exact rc_one _ _ _ _
        have HWb : Hid (Wb = (wr.alloc (.cells #[.int .i64 x, .int .i64 y, .int .i64 z] 64)).alloc (.cells #[.int .i64 x, .int .i64 z, .int .i64 y] 64)) := hWb
        clear hc hxyz k1 k2 k3 hWb hbb HO
        go_wp2_with (at_builtin; rw [← HWb.out]; refine append_rc rfl _ _ rfl w1.heap.size _ ((d.take i).map M.swapC) rfl HOb.out (wr.heap.size + 1) 1 1 [(x, z, y)] rfl rfl HCb.out HLe.out (by have := hbw.size; omega) ?_)
        intro v' w2 ho' hb3 _
        have HO2 : Aside (OwnC w2 w1.heap.size v' ((d.take (i + 1)).map M.swapC)) := by unfold Aside; rw [HMt.out]; simpa [List.map_take] using ho'
        have hb4 : Below w1.heap.size w1 w2 := hbw.trans hb3
        clear ho' hb3
        go_wp2
        go_roundg (gk - 1)
        case measure => omega
        case rel => exact ⟨i + 1, by omega, by go_num, HO2, hb4⟩
      · have e1 : d.take i = d := List.take_of_length_le (by rw [HR1.out.1]; omega)
        have HO2 : Aside (OwnC wr w1.heap.size u4 (d.map M.swapC)) := by have h := HO.out; rw [e1] at h; exact h
        obtain ⟨va, vc, hv, hr, hl, hm2⟩ := HO2.out.rc
        have HV : Hid (u4 = .slice va (d.map M.swapC).length vc) := hv
        have HVr : Hid (Rc wr va (d.map M.swapC).length (d.map M.swapC)) := hr
        clear e1 hv hr
        go_wp2
        go_ret2
        rw [HV.out]
        exact ⟨va, _, vc, rfl, HVr.out, hl, hm2, hb1.trans (hbel.mono hs1)⟩
  · have e1 : M.backE d = 1 := by unfold M.backE; rw [if_neg hf]
    have e2 : M.backV d = [] := by unfold M.backV; rw [if_neg hf]
    rw [e1, e2]
    have hf2 : M.fine d = false := by simpa using hf
    rw [hf2] at K
    have KK : Hid (Calls Tryz.prog 112 #[.slice a n cap] w fun e w' => e = .returned (.bool false) ∧ Below w.heap.size w w') := K
    clear K h hf e1 e2 hf2
    go_enter Tryz.func70, Tryz.ntmps70
    go_wp2_with fail
    refine KK.out.mono ?_
    rintro e w1 ⟨rfl, hb1⟩
    go_wp2
    go_ret2
    exact HandsC.err 1 hb1
end Go.Proofs.YtcgpgflnihjpiagGreat
namespace Go.Proofs.YtcgpgflnihjpiagGreat
open Go.RowKit Go.Shelf Go.Maps
def M.wpE (C : List M.Com) (H : List M.Hd) (s : ByteArray) (d : List M.Chg) : Int :=
  if M.hchk C H s ≠ 0 then M.hchk C H s else if M.fine d = false then 1 else if d.length = 0 then 9 else if 14 ≤ C.length then 2 else M.patchE (C.getD (M.hat C H s).toNat ([], [])).1 d
def M.wpC (C : List M.Com) (H : List M.Hd) (s : ByteArray) (d : List M.Chg) : List M.Com := if M.wpE C H s d = 0 then C ++ [(M.patchV (C.getD (M.hat C H s).toNat ([], [])).1 d, [M.hat C H s])] else []
def M.wpH (C : List M.Com) (H : List M.Hd) (s : ByteArray) (d : List M.Chg) : List M.Hd := if M.wpE C H s d = 0 then M.mv H s C.length else []
theorem wput1_any (lb m cap : Nat) (a : Option Addr) (d : List M.Chg) (w : World) (hl : w.cell? ⟨lb, 0, none⟩ = some (.slice a m cap)) (hrc : Rc w a m d) (hm : m ≤ 9223372036854775807) :
    Calls Tryz.prog 69 #[.pointer (some ⟨lb, 0, none⟩)] w fun e w' => e = .returned (.bool (!M.fine d)) ∧ Below w.heap.size w w' := by
  have HB := back_any a m cap d w hrc hm
  obtain ⟨t, ht⟩ : ∃ t, M.fine d = t := ⟨_, rfl⟩
  have hE : M.backE d = if t = true then 0 else 1 := by unfold M.backE; rw [ht]
  have HBB : Hid (Calls Tryz.prog 70 #[.slice a m cap] w fun e w' => HandsC w w' (M.backV d) (M.backE d) e) := HB
  rw [hE] at HBB
  rw [ht]
  clear HB hrc hE ht
  cases t with
  | true =>
    go_enter Tryz.func69, Tryz.ntmps69
    go_wp2_with fail
    refine HBB.out.mono ?_
    rintro e w1 ⟨a1, n1, c1, rfl, _, _, _, hb⟩
    go_wp2
    go_ret
    exact ⟨rfl, hb⟩
  | false =>
    go_enter Tryz.func69, Tryz.ntmps69
    go_wp2_with fail
    refine HBB.out.mono ?_
    rintro e w1 ⟨a1, n1, c1, rfl, _, _, _, hb⟩
    go_wp2
    go_ret
    exact ⟨rfl, hb⟩
theorem wput2_any (lb m cap : Nat) (a : Option Addr) (w : World) (hl : w.cell? ⟨lb, 0, none⟩ = some (.slice a m cap)) :
    Calls Tryz.prog 71 #[.pointer (some ⟨lb, 0, none⟩)] w fun e w' => e = .returned (.bool (decide (m = 0))) ∧ Below w.heap.size w w' := by
  go_enter Tryz.func71, Tryz.ntmps71
  go_wp2
  go_ret
  exact ⟨ret_bool (by rw [Bool.eq_iff_iff]; simp), Below.refl _ _⟩
theorem wput3_any (db D n cap : Nat) (x : Option Addr) (w : World) (hl : w.cell? ⟨db, 0, none⟩ = some (.pointer (some ⟨D, 0, none⟩))) (hx : w.cell? ⟨D, 0, none⟩ = some (.slice x n cap)) :
    Calls Tryz.prog 72 #[.pointer (some ⟨db, 0, none⟩)] w fun e w' => e = .returned (.bool (decide (14 ≤ n))) ∧ Below w.heap.size w w' := by
  go_enter Tryz.func72, Tryz.ntmps72
  go_wp2
  go_ret
  exact ⟨ret_bool (by rw [Bool.eq_iff_iff]; simp; omega), Below.refl _ _⟩
theorem M.wpE_first {C : List M.Com} {H : List M.Hd} {s : ByteArray} {d : List M.Chg} {m3 : Nat} {f1 f2 f3 : Nat} {c1 c2 c3 : List Value} (hz : M.hchk C H s = 0) (hm : d.length = m3) {c : Int} (hc : c = firstE [⟨1, f1, c1, !M.fine d⟩, ⟨9, f2, c2, decide (m3 = 0)⟩, ⟨2, f3, c3, decide (14 ≤ C.length)⟩]) :
    (c ≠ 0 → M.wpE C H s d = c) ∧ (c = 0 → M.wpE C H s d = M.patchE (C.getD (M.hat C H s).toNat ([], [])).1 d ∧ C.length < 14) := by
  subst hm
  unfold M.wpE
  rw [if_neg (by rw [hz]; simp)]
  rw [hc]
  cases hf : M.fine d with
  | false => simp [firstE]
  | true =>
    by_cases h0 : d.length = 0
    · simp [firstE, h0]
    · by_cases h14 : 14 ≤ C.length
      · simp [firstE, h0, h14]
      · simp [firstE, h0, h14]; omega
theorem M.patchV_len {l : List (Int × Int)} {d : List M.Chg} (h : M.patchE l d = 0) : (M.patchV l d).length ≤ 40 := by
  unfold M.patchV
  rw [if_pos h]
  unfold M.patchE at h
  split at h
  · rename_i h1; exact absurd h h1
  · split at h
    · omega
    · split at h
      · omega
      · split at h
        · omega
        · omega
theorem ownI_one (w : World) (base : Nat) (x : Int) (hb : base ≤ w.heap.size) : OwnI (w.alloc (.cells #[.int .i64 x] 3)) base (.slice (some ⟨w.heap.size, 0, none⟩) 1 1) [x] :=
  ⟨rfl, Or.inr ⟨w.heap.size, 1, #[.int .i64 x], rfl, hb, heap_alloc_new _ _, by simp, by simp [maxLen], rfl, rfl⟩⟩
set_option maxRecDepth 100000 in
set_option maxHeartbeats 16000000 in
theorem wput_any (a : Option Addr) (n cap : Nat) (C : List M.Com) (a2 : Option Addr) (n2 cap2 : Nat) (H : List M.Hd) (s : ByteArray) (a3 : Option Addr) (m3 cap3 : Nat) (d : List M.Chg) (w : World) (hV : RepoV w a n cap C a2 n2 cap2 H) (hrc : Rc w a3 m3 d) (hm3 : m3 ≤ 9223372036854775807) :
    Calls Tryz.prog 39 #[.agg #[.slice a n cap, .slice a2 n2 cap2], .string s, .slice a3 m3 cap3] w fun e w' => ∃ v, e = .returned (.tuple #[v, .int .i64 (M.wpE C H s d)]) ∧ RepoOwn w' w.heap.size v (M.wpC C H s d) (M.wpH C H s d) ∧ Below w.heap.size w w' := by
  obtain ⟨p, hp⟩ : ∃ p, p = w.heap.size := ⟨_, rfl⟩
  obtain ⟨W, hW⟩ : ∃ W, W = (((w.alloc (.cells #[.slice a n cap, .slice a2 n2 cap2] 35)).alloc (.cells #[.slice a3 m3 cap3] 28)).alloc (.cells #[.slice none 0 0, .slice none 0 0] 35)).alloc (.cells #[.string s] 9) := ⟨_, rfl⟩
  have hb : Below w.heap.size w W := by rw [hW]; exact ((((Below.refl _ _).alloc (Nat.le_refl _) _).alloc (by simp) _).alloc (by simp; omega) _).alloc (by simp; omega) _
  obtain ⟨R, hR⟩ : ∃ R, R = p + 1 + 1 := ⟨_, rfl⟩
  have hsz : W.heap.size = R + 2 := by rw [hW, hR, hp]; simp
  have q1 : W.cell? ⟨p + 1, 0, none⟩ = some (.slice a3 m3 cap3) := by rw [hW, hp]; simp [go_sem]
  have q2 : W.heap[R]? = some (.cells #[.slice none 0 0, .slice none 0 0] 35 (0, 0)) := by
    rw [hW, Below.heap_alloc _ _ _ (by simp; omega), show R = ((w.alloc (.cells #[.slice a n cap, .slice a2 n2 cap2] 35)).alloc (.cells #[.slice a3 m3 cap3] 28)).heap.size by rw [hR, hp]; simp]
    exact heap_alloc_new _ _
  have hNs : Ns W (R + 1) 1 [s] := ⟨rfl, by omega, fun i hi => by
    obtain rfl : i = 0 := by omega
    rw [hW, hR, hp]; simp [go_sem]⟩
  have KO := open_any a n cap C a2 n2 cap2 H (R + 1) 1 [s] W (hV.later hb) hNs (by omega) (by omega)
  have HO : Hid (Calls Tryz.prog 67 #[.agg #[.slice a n cap, .slice a2 n2 cap2], .slice (some ⟨R + 1, 0, none⟩) 1 1] W fun e w' => Below W.heap.size W w' ∧
      ((M.openE C H [s] ≠ 0 ∧ e = .returned (.tuple #[.pointer none, .int .i64 (M.openE C H [s])])) ∨ (M.openE C H [s] = 0 ∧ M.rchk C H = 0 ∧ ∃ D, e = .returned (.tuple #[.pointer (some ⟨D, 0, none⟩), .int .i64 0]) ∧ DeskAt w' W.heap.size D C H ([s].map (M.hat C H))))) := KO
  have eO : M.openE C H [s] = M.hchk C H s := by
    by_cases h : M.hchk C H s = 0
    · simp [M.openE, h]
    · simp [M.openE, h]
  rw [eO] at HO
  have HW : Hid (W = (((w.alloc (.cells #[.slice a n cap, .slice a2 n2 cap2] 35)).alloc (.cells #[.slice a3 m3 cap3] 28)).alloc (.cells #[.slice none 0 0, .slice none 0 0] 35)).alloc (.cells #[.string s] 9)) := hW
  have HP : Aside (p = w.heap.size) := hp
  have HR : Aside (R = p + 1 + 1) := hR
  have hpR : p + 1 < R := by omega
  have hpw : p = w.heap.size := hp
  have HPR : Aside (w.heap.size ≤ p) := by unfold Aside; omega
  have HRc : Aside (Rc W a3 m3 d) := hrc.below hb (Nat.le_refl _)
  clear KO eO hW hp hV hrc hNs hR hpw
  go_enter Tryz.func39, Tryz.ntmps39
  go_wp2_with fail
  rw [← HW.out, ← HP.out, ← HR.out]
  refine HO.out.mono ?_
  rintro e w1 ⟨b1, hor⟩
  have hs1 := b1.size
  have hRl : R < w1.heap.size := by omega
  have r2 : w1.heap[R]? = some (.cells #[.slice none 0 0, .slice none 0 0] 35 (0, 0)) := (b1.block (R) (by omega)).trans q2
  have x0 : w1.cell? ⟨R, 0, none⟩ = some (.slice none 0 0) := by rw [cell_of_row _ _ _ _ _ _ r2]; rfl
  have x1 : w1.cell? ⟨R, 1, none⟩ = some (.slice none 0 0) := by rw [cell_of_row _ _ _ _ _ _ r2]; rfl
  have f0 : w1.frozen? ⟨R, 0, none⟩ = false := frozen_of_row _ _ _ _ _ r2
  have f1 : w1.frozen? ⟨R, 1, none⟩ = false := frozen_of_row _ _ _ _ _ r2
  have hbw : Below w.heap.size w w1 := hb.trans (b1.mono hb.size)
  rcases hor with ⟨hne0, rfl⟩ | ⟨hz, hr0, D, rfl, hD⟩
  · have E : Aside (M.wpE C H s d = M.hchk C H s) := by unfold Aside M.wpE; rw [if_pos hne0]
    have EC : Aside (M.wpC C H s d = [] ∧ M.wpH C H s d = []) := ⟨by unfold M.wpC; rw [E.out, if_neg hne0], by unfold M.wpH; rw [E.out, if_neg hne0]⟩
    obtain ⟨c, hc⟩ : ∃ c, c = M.hchk C H s := ⟨_, rfl⟩
    rw [← hc] at E hne0 ⊢
    have hne : (c != 0) = true := by simp [hne0]
    obtain ⟨g1, g2, g3⟩ := res_set r2 (.slice none 0 0) (.slice none 0 0)
    obtain ⟨Y, hY⟩ : ∃ Y, Y = (w1.setCell ⟨R, 0, none⟩ (.slice none 0 0)).setCell ⟨R, 1, none⟩ (.slice none 0 0) := ⟨_, rfl⟩
    rw [← hY] at g1 g3
    have bY : Below w.heap.size w Y := by rw [hY]; exact (hbw.setCell (p := ⟨R, 0, none⟩) (by show _ ≤ R; have := HPR.out; omega) _).setCell (p := ⟨R, 1, none⟩) (by show _ ≤ R; have := HPR.out; omega) _
    obtain ⟨X, hX⟩ : ∃ X, X = Y.alloc (.cells #[.pointer none] 106) := ⟨_, rfl⟩
    have bX : Below w.heap.size w X := by rw [hX]; exact bY.alloc bY.size _
    have gX : X.heap[R]? = some (.cells #[.slice none 0 0, .slice none 0 0] 35 (0, 0)) := by rw [hX, Below.heap_alloc _ _ _ (by omega)]; exact g1
    have HX : Hid (X = ((w1.setCell ⟨R, 0, none⟩ (.slice none 0 0)).setCell ⟨R, 1, none⟩ (.slice none 0 0)).alloc (.cells #[.pointer none] 106)) := by rw [← hY]; exact hX
    have HX0 : Aside (X.cell? ⟨R, 0, none⟩ = some (.slice none 0 0)) := by unfold Aside; rw [cell_of_row _ _ _ _ _ _ gX]; rfl
    have HX1 : Aside (X.cell? ⟨R, 1, none⟩ = some (.slice none 0 0)) := by unfold Aside; rw [cell_of_row _ _ _ _ _ _ gX]; rfl
    clear hne0 hc g1 g2 g3 hY hX gX bY r2
    go_wp2
    rw [← HX.out]
    have y0 := HX0.out
    have y1 := HX1.out
    refine bodyPost_ret (v := .tuple #[.agg #[.slice none 0 0, .slice none 0 0], .int .i64 c]) (by simp [results, Tryz.results39, go_sem, y0, y1]) rfl ?_
    refine ⟨_, ret_two' E.out.symm, ?_, bX⟩
    rw [EC.out.1, EC.out.2]; exact RepoOwn.none _ _
  · have hlen := M.rchk_zero hr0
    have hC14 : C.length ≤ 14 := (M.dchk_zero hlen.1).1
    have hH4 : H.length ≤ 4 := hlen.2.1
    have hat := M.hat_in hz
    have hplc : 0 ≤ M.plc H s := (M.hchk_zero hz).2
    obtain ⟨at0, hat0⟩ : ∃ at0 : Nat, M.hat C H s = (at0 : Int) := ⟨(M.hat C H s).toNat, by omega⟩
    rw [hat0] at hat
    have hatl : at0 < C.length := by omega
    have hDm : DeskAt w1 W.heap.size D C H [(at0 : Int)] := by have h := hD; simp only [List.map_cons, List.map_nil, hat0] at h; exact h
    have hDl := hDm.lt
    have hDb : R + 2 ≤ D := by obtain ⟨_, _, _, _, h2, _⟩ := hDm; omega
    obtain ⟨db, hdb⟩ : ∃ db, db = w1.heap.size := ⟨_, rfl⟩
    obtain ⟨w2, hw2⟩ : ∃ w2, w2 = w1.alloc (.cells #[.pointer (some ⟨D, 0, none⟩)] 106) := ⟨_, rfl⟩
    have b2 : Below w1.heap.size w1 w2 := by rw [hw2]; exact (Below.refl _ _).alloc (Nat.le_refl _) _
    obtain ⟨w3, hw3⟩ : ∃ w3, w3 = w2.alloc (.cells #[.int .i64 1, .func (.func 69) #[] #[.pointer (some ⟨p + 1, 0, none⟩)], .int .i64 9, .func (.func 71) #[] #[.pointer (some ⟨p + 1, 0, none⟩)], .int .i64 2, .func (.func 72) #[] #[.pointer (some ⟨db, 0, none⟩)]] 113) := ⟨_, rfl⟩
    have b3 : Below w2.heap.size w2 w3 := by rw [hw3]; exact (Below.refl _ _).alloc (Nat.le_refl _) _
    have hs2 : w2.heap.size = db + 1 := by rw [hw2, hdb]; simp
    have hs3 : w3.heap.size = db + 1 + 1 := by rw [hw3]; simp [hs2]
    have blkd : w3.heap[db]? = some (.cells #[.pointer (some ⟨D, 0, none⟩)] 106 (0, 0)) := by
      rw [hw3, Below.heap_alloc _ _ _ (by omega), hw2, hdb]; exact heap_alloc_new _ _
    have D3 : DeskAt w3 W.heap.size D C H [(at0 : Int)] := (hDm.later b2).later b3
    have b13 : Below w1.heap.size w1 w3 := dbelow2 b2 b3
    have l3 : w3.cell? ⟨p + 1, 0, none⟩ = some (.slice a3 m3 cap3) := (b13.cell (p := ⟨p + 1, 0, none⟩) (by show p + 1 < _; omega)).trans ((b1.cell (p := ⟨p + 1, 0, none⟩) (by show p + 1 < _; omega)).trans q1)
    have rc3 : Rc w3 a3 m3 d := (HRc.out.below b1 (Nat.le_refl _)).below b13 (Nat.le_refl _)
    have KF := firstOf_any (db + 1) 3 [⟨1, 69, [.pointer (some ⟨p + 1, 0, none⟩)], !M.fine d⟩, ⟨9, 71, [.pointer (some ⟨p + 1, 0, none⟩)], decide (m3 = 0)⟩, ⟨2, 72, [.pointer (some ⟨db, 0, none⟩)], decide (14 ≤ C.length)⟩] w3 rfl (by omega) (by omega)
      (fun i hi => by
        rw [hw3, ← hs2]
        match i, hi with
        | 0, _ => constructor <;> simp [go_sem]
        | 1, _ => constructor <;> simp [go_sem]
        | 2, _ => constructor <;> simp [go_sem])
      (fun b hb => by
        simp only [List.mem_cons, List.not_mem_nil, or_false] at hb
        rcases hb with rfl | rfl | rfl
        · exact ⟨enters_of Tryz.func69 (by kernel_rfl) rfl, fun V hV => wput1_any (p + 1) m3 cap3 a3 d V ((hV.cell (p := ⟨p + 1, 0, none⟩) (by show p + 1 < _; omega)).trans l3) (rc3.below hV (Nat.le_refl _)) hm3⟩
        · exact ⟨enters_of Tryz.func71 (by kernel_rfl) rfl, fun V hV => wput2_any (p + 1) m3 cap3 a3 V ((hV.cell (p := ⟨p + 1, 0, none⟩) (by show p + 1 < _; omega)).trans l3)⟩
        · refine ⟨enters_of Tryz.func72 (by kernel_rfl) rfl, fun V hV => ?_⟩
          obtain ⟨x, y, z, e1, _, e3, _⟩ := D3.later hV
          obtain ⟨xa, xc, rfl, _⟩ := e3.cm
          exact wput3_any db D C.length xc xa V (by rw [cell_of_row _ _ _ _ _ _ ((hV.block db (by omega)).trans blkd)]; rfl) (by rw [cell_of_row _ _ _ _ _ _ e1]; rfl))
    obtain ⟨c, hc⟩ : ∃ c, c = firstE [⟨1, 69, [.pointer (some ⟨p + 1, 0, none⟩)], !M.fine d⟩, ⟨9, 71, [.pointer (some ⟨p + 1, 0, none⟩)], decide (m3 = 0)⟩, ⟨2, 72, [.pointer (some ⟨db, 0, none⟩)], decide (14 ≤ C.length)⟩] := ⟨_, rfl⟩
    rw [← hc] at KF
    have HKF : Hid (Calls Tryz.prog 68 #[.slice (some ⟨db + 1, 0, none⟩) 3 3] w3 fun e w' => e = .returned (.int .i64 c) ∧ Below w3.heap.size w3 w') := KF
    have HW3 : Hid (w3 = (w1.alloc (.cells #[.pointer (some ⟨D, 0, none⟩)] 106)).alloc (.cells #[.int .i64 1, .func (.func 69) #[] #[.pointer (some ⟨p + 1, 0, none⟩)], .int .i64 9, .func (.func 71) #[] #[.pointer (some ⟨p + 1, 0, none⟩)], .int .i64 2, .func (.func 72) #[] #[.pointer (some ⟨db, 0, none⟩)]] 113)) := by rw [← hw2]; exact hw3
    have HDB : Aside (db = w1.heap.size) := hdb
    have HD3 : Aside (DeskAt w3 W.heap.size D C H [(at0 : Int)]) := D3
    have HBD : Aside (w3.heap[db]? = some (.cells #[.pointer (some ⟨D, 0, none⟩)] 106 (0, 0))) := blkd
    have HL3 : Aside (w3.cell? ⟨p + 1, 0, none⟩ = some (.slice a3 m3 cap3)) := l3
    have HRc3 : Aside (Rc w3 a3 m3 d) := rc3
    have HC : Aside (c = firstE [⟨1, 69, [.pointer (some ⟨p + 1, 0, none⟩)], !M.fine d⟩, ⟨9, 71, [.pointer (some ⟨p + 1, 0, none⟩)], decide (m3 = 0)⟩, ⟨2, 72, [.pointer (some ⟨db, 0, none⟩)], decide (14 ≤ C.length)⟩]) := hc
    have HZ : Aside (M.hchk C H s = 0) := hz
    have HAt : Aside (M.hat C H s = (at0 : Int)) := hat0
    have hb3w : Below w.heap.size w w3 := hbw.trans (b13.mono hbw.size)
    have r3 : w3.heap[R]? = some (.cells #[.slice none 0 0, .slice none 0 0] 35 (0, 0)) := (b13.block R (by omega)).trans r2
    have HR3 : Aside (w3.heap[R]? = some (.cells #[.slice none 0 0, .slice none 0 0] 35 (0, 0))) := r3
    have hs3' : R + 2 < w3.heap.size := by omega
    clear KF hw2 hw3 D3 blkd l3 rc3 hc hz hat0 hD hDm b2 b3 r3 x0 x1 f0 f1 r2 hlen hat b13 hdb hs2 hs3
    go_wp2_with fail
    rw [← HDB.out, ← HW3.out]
    refine HKF.out.mono ?_
    rintro e w4 ⟨rfl, b4⟩
    have hdl : db < w3.heap.size := (Array.getElem?_eq_some_iff.1 HBD.out).1
    have w4b : Below w.heap.size w w4 := hb3w.trans (b4.mono hb3w.size)
    have w4r : w4.heap[R]? = some (.cells #[.slice none 0 0, .slice none 0 0] 35 (0, 0)) := (b4.block R (by omega)).trans HR3.out
    have hEf := M.wpE_first HZ.out HRc3.out.1 HC.out
    by_cases hc0 : c = 0
    · have hne : (c != 0) = false := by simp [hc0]
      obtain ⟨hE, hC13⟩ := hEf.2 hc0
      rw [HAt.out] at hE
      obtain ⟨rows, hrows⟩ : ∃ rows, rows = (C.getD at0 ([], [])).1 := ⟨_, rfl⟩
      have hE' : M.wpE C H s d = M.patchE rows d := by rw [hE, hrows]; rfl
      have HE : Aside (M.wpE C H s d = M.patchE rows d) := hE'
      have D4 : DeskAt w4 W.heap.size D C H [(at0 : Int)] := HD3.out.later b4
      have HD4 : Aside (DeskAt w4 W.heap.size D C H [(at0 : Int)]) := D4
      obtain ⟨x, y, z, e1, _, _, _, e5⟩ := D4
      obtain ⟨zg, zc, rfl⟩ : ∃ zg zc, z = .slice (some ⟨zg, 0, none⟩) 1 zc := by
        rcases e5.2 with ⟨_, e⟩ | ⟨g, cap, _, e, _⟩
        · simp at e
        · exact ⟨g, cap, e⟩
      have k0 : w4.cell? ⟨db, 0, none⟩ = some (.pointer (some ⟨D, 0, none⟩)) := by rw [cell_of_row _ _ _ _ _ _ ((b4.block db hdl).trans HBD.out)]; rfl
      have k2 : w4.cell? ⟨D, 2, none⟩ = some (.slice (some ⟨zg, 0, none⟩) 1 zc) := by rw [cell_of_row _ _ _ _ _ _ e1]; rfl
      have k3 : w4.cell? ⟨zg, 0, none⟩ = some (.int .i64 (at0 : Int)) := by rw [World.ownsRow.cellAt e5 0 (by simp)]; rfl
      have k4 : w4.cell? ⟨p + 1, 0, none⟩ = some (.slice a3 m3 cap3) := (b4.cell (p := ⟨p + 1, 0, none⟩) (by show p + 1 < _; omega)).trans HL3.out
      have hzl : zg < w4.heap.size := World.block_lt_of_cell? w4 ⟨zg, 0, none⟩ k3
      have hDl4 : D < w4.heap.size := (Array.getElem?_eq_some_iff.1 e1).1
      have hs4 := b4.size
      have HS : Hid (∀ V, Below w4.heap.size w4 V → (V.cell? ⟨db, 0, none⟩ = some (.pointer (some ⟨D, 0, none⟩)) ∧ V.cell? ⟨D, 2, none⟩ = some (.slice (some ⟨zg, 0, none⟩) 1 zc) ∧ V.cell? ⟨zg, 0, none⟩ = some (.int .i64 (at0 : Int)) ∧ V.cell? ⟨p + 1, 0, none⟩ = some (.slice a3 m3 cap3))) := fun V hV => ⟨(hV.cell (p := ⟨db, 0, none⟩) (by show db < _; omega)).trans k0, (hV.cell (p := ⟨D, 2, none⟩) hDl4).trans k2, (hV.cell (p := ⟨zg, 0, none⟩) hzl).trans k3, (hV.cell (p := ⟨p + 1, 0, none⟩) (by show p + 1 < _; omega)).trans k4⟩
      have HRw : Hid (∀ V, Below w4.heap.size w4 V → Calls Tryz.prog 74 #[.pointer (some ⟨D, 0, none⟩), .int .i64 (at0 : Int)] V fun e w' => ∃ a cap, e = .returned (.slice a rows.length cap) ∧ Own w' W.heap.size (.slice a rows.length cap) rows ∧ w' = V) := fun V hV => by rw [hrows]; exact drows_any D W.heap.size C H [(at0 : Int)] at0 V (HD4.out.later hV) hatl
      have HRc4 : Aside (Rc w4 a3 m3 d) := HRc3.out.below b4 (Nat.le_refl _)
      have HRws : Aside (rows = (C.getD at0 ([], [])).1) := hrows
      clear hEf hE hE' hrows e1 e5 HKF hc0
      go_wp2_with fail
      go_region_held3 (fun V => V.cell? ⟨db, 0, none⟩ = some (.pointer (some ⟨D, 0, none⟩)) ∧ V.cell? ⟨D, 2, none⟩ = some (.slice (some ⟨zg, 0, none⟩) 1 zc) ∧ V.cell? ⟨zg, 0, none⟩ = some (.int .i64 (at0 : Int)) ∧ V.cell? ⟨p + 1, 0, none⟩ = some (.slice a3 m3 cap3)) (first | exact hAnew.out | exact ⟨k0, k2, k3, k4⟩ | go_keep) (first | (go_at_call 74; refine (HRw.out _ ((Below.refl _ _).drew)).mono ?_; rintro e w5 ⟨ra, rcp, rfl, ho5, rfl⟩; obtain ⟨ra5, rc5, he5, hr5, hl5, hm5, hn5⟩ := ho5.rd; obtain ⟨rfl, rfl⟩ : ra = ra5 ∧ rcp = rc5 := (by simpa using he5); have HPa : Hid (Calls Tryz.prog 73 #[.slice ra rows.length rcp, .slice a3 m3 cap3] w4.drew fun e w' => HandsO w4.drew w' (M.patchV rows d) (M.patchE rows d) e) := patch_own ra rows.length rcp rows a3 m3 cap3 d w4.drew hr5 (by unfold maxLen at hm5; omega) hn5 (HRc4.out.below ((Below.refl _ _).drew) (Nat.le_refl _)) hm3; clear ho5 he5 hr5 hl5 hm5 hn5) | (go_at_call 73; refine HPa.out.mono ?_; rintro e w6 ⟨pa, pn, pc, rfl, hr6, hn6, hc6, hz6, hb6⟩; have B6 : Hid (Below w4.heap.size w4 w6) := ((Below.refl _ _).drew).trans hb6; have hAnew : Hid (w6.cell? ⟨db, 0, none⟩ = some (.pointer (some ⟨D, 0, none⟩)) ∧ w6.cell? ⟨D, 2, none⟩ = some (.slice (some ⟨zg, 0, none⟩) 1 zc) ∧ w6.cell? ⟨zg, 0, none⟩ = some (.int .i64 (at0 : Int)) ∧ w6.cell? ⟨p + 1, 0, none⟩ = some (.slice a3 m3 cap3)) := HS.out w6 B6.out; obtain ⟨j0, j1, j2, j3⟩ := hAnew.out; have HO6 : Hid (Own w6 w4.heap.size (.slice pa pn pc) (M.patchV rows d)) := hz6.2; clear hr6 hn6 hc6 hz6 hb6))
      obtain ⟨pe, hpe⟩ : ∃ pe, pe = M.patchE rows d := ⟨_, rfl⟩
      rw [← hpe] at HE ⊢
      have w6b : Below w.heap.size w w6 := w4b.trans (B6.out.mono w4b.size)
      have w6r : w6.heap[R]? = some (.cells #[.slice none 0 0, .slice none 0 0] 35 (0, 0)) := (B6.out.block R (by omega)).trans w4r
      by_cases hp0 : pe = 0
      · have hne6 : (pe != 0) = false := by simp [hp0]
        have EC : Aside (M.wpC C H s d = C ++ [(M.patchV rows d, [(at0 : Int)])] ∧ M.wpH C H s d = M.mv H s C.length) := by
          refine ⟨?_, ?_⟩
          · unfold M.wpC; rw [HE.out, if_pos hp0, HAt.out, HRws.out]; rfl
          · unfold M.wpH; rw [HE.out, if_pos hp0]
        have HE0 : Aside (M.wpE C H s d = 0) := by unfold Aside; rw [HE.out]; exact hp0
        have hpv : (M.patchV rows d).length ≤ 40 := M.patchV_len (by rw [← hpe]; exact hp0)
        obtain ⟨W7, hW7⟩ : ∃ W7, W7 = w6.drew.alloc (.cells #[.int .i64 (at0 : Int)] 3) := ⟨_, rfl⟩
        have b67 : Below w6.heap.size w6 W7 := by rw [hW7]; exact ((Below.refl _ _).drew).alloc (Nat.le_refl _) _
        have D7 : DeskAt W7 W.heap.size D C H [(at0 : Int)] := (HD4.out.later B6.out).later b67
        have hs6 := B6.out.size
        have s67 := b67.size
        have oc : OwnCo W7 W.heap.size (.slice pa pn pc, .slice (some ⟨w6.heap.size, 0, none⟩) 1 1) (M.patchV rows d, [(at0 : Int)]) := by
          refine ⟨ownsRow_lower (ownsRow_later HO6.out b67) (by omega), ?_, by show (M.patchV rows d).length ≤ _; omega, by show 1 ≤ _; omega⟩
          rw [hW7]
          exact ownI_one w6.drew W.heap.size (at0 : Int) (by show _ ≤ w6.heap.size; omega)
        have KC := commit_any D W.heap.size C H [(at0 : Int)] s pa (some ⟨w6.heap.size, 0, none⟩) pn pc 1 1 (M.patchV rows d, [(at0 : Int)]) W7 D7 (by omega) oc hplc (by omega)
        have HCm : Hid (Calls Tryz.prog 75 #[.pointer (some ⟨D, 0, none⟩), .string s, .slice pa pn pc, .slice (some ⟨w6.heap.size, 0, none⟩) 1 1] (w6.drew.alloc (.cells #[.int .i64 (at0 : Int)] 3)) fun e w' => (∃ v, e = .returned v) ∧ DeskAt w' W.heap.size D (C ++ [(M.patchV rows d, [(at0 : Int)])]) (M.mv H s C.length) [(at0 : Int)] ∧ Below W.heap.size W7 w' ∧ Kt W7 w') := by rw [← hW7]; exact KC
        have hS7 : Hid ((w6.drew.alloc (.cells #[.int .i64 (at0 : Int)] 3)).cell? ⟨db, 0, none⟩ = some (.pointer (some ⟨D, 0, none⟩)) ∧ (w6.drew.alloc (.cells #[.int .i64 (at0 : Int)] 3)).cell? ⟨D, 2, none⟩ = some (.slice (some ⟨zg, 0, none⟩) 1 zc) ∧ (w6.drew.alloc (.cells #[.int .i64 (at0 : Int)] 3)).cell? ⟨zg, 0, none⟩ = some (.int .i64 (at0 : Int))) := by rw [← hW7]; exact ⟨(b67.cell (p := ⟨db, 0, none⟩) (by show db < _; omega)).trans j0, (b67.cell (p := ⟨D, 2, none⟩) (by show D < _; omega)).trans j1, (b67.cell (p := ⟨zg, 0, none⟩) (by show zg < _; omega)).trans j2⟩
        have HB7 : Hid (Below w.heap.size w W7) := w6b.trans (b67.mono w6b.size)
        have HD7 : Hid (W7.heap[db]? = some (.cells #[.pointer (some ⟨D, 0, none⟩)] 106 (0, 0))) := (b67.block db (by omega)).trans ((B6.out.block db (by omega)).trans ((b4.block db hdl).trans HBD.out))
        have HR7 : Hid (W7.heap[R]? = some (.cells #[.slice none 0 0, .slice none 0 0] 35 (0, 0))) := (b67.block R (by omega)).trans w6r
        have HWw : Hid (w.heap.size ≤ W.heap.size) := hb.size
        clear hp0 hpe hW7 D7 oc KC b67 w6r w4r HRw HS HO6 hAnew hpv
        go_wp2_with fail
        refine wp_region_till 10 (fun V => V.cell? ⟨db, 0, none⟩ = some (.pointer (some ⟨D, 0, none⟩)) ∧ V.cell? ⟨D, 2, none⟩ = some (.slice (some ⟨zg, 0, none⟩) 1 zc) ∧ V.cell? ⟨zg, 0, none⟩ = some (.int .i64 (at0 : Int))) (by kernel_rfl) ⟨j0, j1, j2⟩ (fun hHeld => ?_)
        refine till_take 0 (v := .pointer (some ⟨D, 0, none⟩)) rfl (by decide) (by kernel_rfl) (by kernel_rfl) (by kernel_rfl) (by kernel_rfl) (by kernel_rfl) (fun _ _ _ h => h) (Or.inl ⟨by rfl, fun V hV => (by obtain ⟨v0, v1, v2⟩ := hV; go_simp)⟩) hHeld ?_
        try simp only [Act.put]
        refine till_go 1 (v := .string s) rfl (by decide) (by kernel_rfl) (by kernel_rfl) (by kernel_rfl) (fun _ _ _ h => h) (Or.inl ⟨by rfl, fun V _ => (by go_simp)⟩) hHeld ?_
        try simp only [Act.put]
        refine till_go 2 (v := .slice pa pn pc) rfl (by decide) (by kernel_rfl) (by kernel_rfl) (by kernel_rfl) (fun _ _ _ h => h) (Or.inl ⟨by rfl, fun V _ => (by go_simp)⟩) hHeld ?_
        try simp only [Act.put]
        refine till_take 3 (v := .pointer (some ⟨D, 0, none⟩)) rfl (by decide) (by kernel_rfl) (by kernel_rfl) (by kernel_rfl) (by kernel_rfl) (by kernel_rfl) (fun _ _ _ h => h) (Or.inl ⟨by rfl, fun V hV => (by obtain ⟨v0, v1, v2⟩ := hV; go_simp)⟩) hHeld ?_
        try simp only [Act.put]
        refine till_go 4 (v := .pointer (some ⟨D, 0, none⟩)) rfl (by decide) (by kernel_rfl) (by kernel_rfl) (by kernel_rfl) (fun _ _ _ h => h) (Or.inl ⟨by rfl, fun V _ => (by go_simp)⟩) hHeld ?_
        try simp only [Act.put]
        refine till_go 5 (v := .pointer (some ⟨D, 2, none⟩)) rfl (by decide) (by kernel_rfl) (by kernel_rfl) (by kernel_rfl) (fun _ _ _ h => h) (Or.inl ⟨by rfl, fun V _ => (by go_simp)⟩) hHeld ?_
        try simp only [Act.put]
        refine till_take 6 (v := .slice (some ⟨zg, 0, none⟩) 1 zc) rfl (by decide) (by kernel_rfl) (by kernel_rfl) (by kernel_rfl) (by kernel_rfl) (by kernel_rfl) (fun _ _ _ h => h) (Or.inl ⟨by rfl, fun V hV => (by obtain ⟨v0, v1, v2⟩ := hV; go_simp)⟩) hHeld ?_
        try simp only [Act.put]
        refine till_go 7 (v := .pointer (some ⟨zg, 0, none⟩)) rfl (by decide) (by kernel_rfl) (by kernel_rfl) (by kernel_rfl) (fun _ _ _ h => h) (Or.inl ⟨by rfl, fun V _ => (by go_simp)⟩) hHeld ?_
        try simp only [Act.put]
        refine till_take 8 (v := .int .i64 (at0 : Int)) rfl (by decide) (by kernel_rfl) (by kernel_rfl) (by kernel_rfl) (by kernel_rfl) (by kernel_rfl) (fun _ _ _ h => h) (Or.inl ⟨by rfl, fun V hV => (by obtain ⟨v0, v1, v2⟩ := hV; go_simp)⟩) hHeld ?_
        try simp only [Act.put]
        refine till_step 9 rfl (by decide) (by kernel_rfl) (fun K hK => ?_)
        go_simp
        refine hK.out _ _ hS7.out (fun hHeld => ?_)
        clear hK K
        refine till_last rfl (by kernel_rfl) (by kernel_rfl) (fun K hK => ?_) _
        go_simp
        go_wp2_with (go_at_call 75; refine HCm.out.mono ?_; rintro e w8 ⟨⟨v8, rfl⟩, hd8, hb8, hk8⟩)
        refine hK.out _ _ ?_
        clear hK K
        have w8b : Below w.heap.size w w8 := HB7.out.trans (hb8.mono HWw.out)
        have hRW : R < W.heap.size := by omega
        have w8r : w8.heap[R]? = some (.cells #[.slice none 0 0, .slice none 0 0] 35 (0, 0)) := (hb8.block R hRW).trans HR7.out
        have d8 : w8.heap[db]? = some (.cells #[.pointer (some ⟨D, 0, none⟩)] 106 (0, 0)) := hk8 db _ _ (by decide) (by decide) (by decide) HD7.out
        have m0 : w8.cell? ⟨db, 0, none⟩ = some (.pointer (some ⟨D, 0, none⟩)) := by rw [cell_of_row _ _ _ _ _ _ d8]; rfl
        obtain ⟨x8, y8, z8, e8, _, o8, h8, _⟩ := hd8
        obtain ⟨xa8, xc8, rfl, _⟩ := o8.cm
        obtain ⟨ya8, yc8, rfl, _⟩ := h8.hs
        generalize hln : (C ++ [(M.patchV rows d, [(at0 : Int)])]).length = ln at *
        generalize hlh : (M.mv H s C.length).length = lh at *
        have m1 : w8.cell? ⟨D, 0, none⟩ = some (.slice xa8 ln xc8) := by rw [cell_of_row _ _ _ _ _ _ e8]; rfl
        have m2 : w8.cell? ⟨D, 1, none⟩ = some (.slice ya8 lh yc8) := by rw [cell_of_row _ _ _ _ _ _ e8]; rfl
        have HRO : Aside (RepoOwn ((w8.setCell ⟨R, 0, none⟩ (.slice xa8 ln xc8)).setCell ⟨R, 1, none⟩ (.slice ya8 lh yc8)) w.heap.size (.agg #[.slice xa8 ln xc8, .slice ya8 lh yc8]) (M.wpC C H s d) (M.wpH C H s d)) := by
          unfold Aside
          rw [EC.out.1, EC.out.2]
          exact (repoOwn_set w8r o8 h8).lower HWw.out
        obtain ⟨g1, g2, g3⟩ := res_set w8r (.slice xa8 ln xc8) (.slice ya8 lh yc8)
        obtain ⟨X, hX⟩ : ∃ X, X = (w8.setCell ⟨R, 0, none⟩ (.slice xa8 ln xc8)).setCell ⟨R, 1, none⟩ (.slice ya8 lh yc8) := ⟨_, rfl⟩
        rw [← hX] at g1 HRO
        have bX : Below w.heap.size w X := by rw [hX]; exact (w8b.setCell (p := ⟨R, 0, none⟩) (by show _ ≤ R; have := HPR.out; omega) _).setCell (p := ⟨R, 1, none⟩) (by show _ ≤ R; have := HPR.out; omega) _
        have HX : Hid (X = (w8.setCell ⟨R, 0, none⟩ (.slice xa8 ln xc8)).setCell ⟨R, 1, none⟩ (.slice ya8 lh yc8)) := hX
        have HX0 : Aside (X.cell? ⟨R, 0, none⟩ = some (.slice xa8 ln xc8)) := by unfold Aside; rw [cell_of_row _ _ _ _ _ _ g1]; rfl
        have HX1 : Aside (X.cell? ⟨R, 1, none⟩ = some (.slice ya8 lh yc8)) := by unfold Aside; rw [cell_of_row _ _ _ _ _ _ g1]; rfl
        have x0 : w8.cell? ⟨R, 0, none⟩ = some (.slice none 0 0) := by rw [cell_of_row _ _ _ _ _ _ w8r]; rfl
        have x1 : w8.cell? ⟨R, 1, none⟩ = some (.slice none 0 0) := by rw [cell_of_row _ _ _ _ _ _ w8r]; rfl
        have f0 : w8.frozen? ⟨R, 0, none⟩ = false := frozen_of_row _ _ _ _ _ w8r
        have f1 : w8.frozen? ⟨R, 1, none⟩ = false := frozen_of_row _ _ _ _ _ w8r
        clear g1 g2 g3 hX w8r e8 o8 h8 d8 hb8 hk8 hln hlh j0 j1 j2 j3 k0 k2 k3 k4
        go_wp2
        rw [← HX.out]
        have y0 := HX0.out
        have y1 := HX1.out
        refine bodyPost_ret (v := .tuple #[.agg #[.slice xa8 ln xc8, .slice ya8 lh yc8], .int .i64 0]) (by simp [results, Tryz.results39, go_sem, y0, y1]) rfl ?_
        exact ⟨_, ret_two' HE0.out.symm, HRO.out, bX⟩
      · have hne6 : (pe != 0) = true := by simp [hp0]
        have EC : Aside (M.wpC C H s d = [] ∧ M.wpH C H s d = []) := ⟨by unfold M.wpC; rw [HE.out, if_neg hp0], by unfold M.wpH; rw [HE.out, if_neg hp0]⟩
        clear hp0 hpe w4r HRw HS HO6 hAnew
        obtain ⟨g1, g2, g3⟩ := res_set w6r (.slice none 0 0) (.slice none 0 0)
        obtain ⟨X, hX⟩ : ∃ X, X = (w6.setCell ⟨R, 0, none⟩ (.slice none 0 0)).setCell ⟨R, 1, none⟩ (.slice none 0 0) := ⟨_, rfl⟩
        rw [← hX] at g1
        have bX : Below w.heap.size w X := by rw [hX]; exact (w6b.setCell (p := ⟨R, 0, none⟩) (by show _ ≤ R; have := HPR.out; omega) _).setCell (p := ⟨R, 1, none⟩) (by show _ ≤ R; have := HPR.out; omega) _
        have HX : Hid (X = (w6.setCell ⟨R, 0, none⟩ (.slice none 0 0)).setCell ⟨R, 1, none⟩ (.slice none 0 0)) := hX
        have HX0 : Aside (X.cell? ⟨R, 0, none⟩ = some (.slice none 0 0)) := by unfold Aside; rw [cell_of_row _ _ _ _ _ _ g1]; rfl
        have HX1 : Aside (X.cell? ⟨R, 1, none⟩ = some (.slice none 0 0)) := by unfold Aside; rw [cell_of_row _ _ _ _ _ _ g1]; rfl
        have x0 : w6.cell? ⟨R, 0, none⟩ = some (.slice none 0 0) := by rw [cell_of_row _ _ _ _ _ _ w6r]; rfl
        have x1 : w6.cell? ⟨R, 1, none⟩ = some (.slice none 0 0) := by rw [cell_of_row _ _ _ _ _ _ w6r]; rfl
        have f0 : w6.frozen? ⟨R, 0, none⟩ = false := frozen_of_row _ _ _ _ _ w6r
        have f1 : w6.frozen? ⟨R, 1, none⟩ = false := frozen_of_row _ _ _ _ _ w6r
        clear g1 g2 g3 hX w6r
        go_wp2
        rw [← HX.out]
        have y0 := HX0.out
        have y1 := HX1.out
        refine bodyPost_ret (v := .tuple #[.agg #[.slice none 0 0, .slice none 0 0], .int .i64 pe]) (by simp [results, Tryz.results39, go_sem, y0, y1]) rfl ?_
        refine ⟨_, ret_two' HE.out.symm, ?_, bX⟩
        rw [EC.out.1, EC.out.2]; exact RepoOwn.none _ _
    · have hne : (c != 0) = true := by simp [hc0]
      have E : Aside (M.wpE C H s d = c) := hEf.1 hc0
      have EC : Aside (M.wpC C H s d = [] ∧ M.wpH C H s d = []) := ⟨by unfold M.wpC; rw [E.out, if_neg hc0], by unfold M.wpH; rw [E.out, if_neg hc0]⟩
      clear hEf hc0 HKF b4
      obtain ⟨g1, g2, g3⟩ := res_set w4r (.slice none 0 0) (.slice none 0 0)
      obtain ⟨X, hX⟩ : ∃ X, X = (w4.setCell ⟨R, 0, none⟩ (.slice none 0 0)).setCell ⟨R, 1, none⟩ (.slice none 0 0) := ⟨_, rfl⟩
      rw [← hX] at g1
      have bX : Below w.heap.size w X := by rw [hX]; exact (w4b.setCell (p := ⟨R, 0, none⟩) (by show _ ≤ R; have := HPR.out; omega) _).setCell (p := ⟨R, 1, none⟩) (by show _ ≤ R; have := HPR.out; omega) _
      have HX : Hid (X = (w4.setCell ⟨R, 0, none⟩ (.slice none 0 0)).setCell ⟨R, 1, none⟩ (.slice none 0 0)) := hX
      have HX0 : Aside (X.cell? ⟨R, 0, none⟩ = some (.slice none 0 0)) := by unfold Aside; rw [cell_of_row _ _ _ _ _ _ g1]; rfl
      have HX1 : Aside (X.cell? ⟨R, 1, none⟩ = some (.slice none 0 0)) := by unfold Aside; rw [cell_of_row _ _ _ _ _ _ g1]; rfl
      have x0 : w4.cell? ⟨R, 0, none⟩ = some (.slice none 0 0) := by rw [cell_of_row _ _ _ _ _ _ w4r]; rfl
      have x1 : w4.cell? ⟨R, 1, none⟩ = some (.slice none 0 0) := by rw [cell_of_row _ _ _ _ _ _ w4r]; rfl
      have f0 : w4.frozen? ⟨R, 0, none⟩ = false := frozen_of_row _ _ _ _ _ w4r
      have f1 : w4.frozen? ⟨R, 1, none⟩ = false := frozen_of_row _ _ _ _ _ w4r
      clear g1 g2 g3 hX w4r
      go_wp2
      rw [← HX.out]
      have y0 := HX0.out
      have y1 := HX1.out
      refine bodyPost_ret (v := .tuple #[.agg #[.slice none 0 0, .slice none 0 0], .int .i64 c]) (by simp [results, Tryz.results39, go_sem, y0, y1]) rfl ?_
      refine ⟨_, ret_two' E.out.symm, ?_, bX⟩
      rw [EC.out.1, EC.out.2]; exact RepoOwn.none _ _
end Go.Proofs.YtcgpgflnihjpiagGreat
