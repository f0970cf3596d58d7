/- diff.Back. -/
import Derived.Test.YtcgpgflnihjpiacPatch2
import Derived.Test.YtcgpgflnihjpiacFew
namespace Go.Proofs.Ytcgpgflnihjpiac
namespace M
def swapC (c : Chg) : Chg := (c.1, c.2.2, c.2.1)
def backE (d : List Chg) : Int := if fine d = true then 0 else 1
def backV (d : List Chg) : List Chg := if fine d = true then d.map swapC else []
theorem map_take (d : List Chg) (k : Nat) (h : k < d.length) : (d.take (k + 1)).map swapC = (d.take k).map swapC ++ [swapC (d.getD k (0, 0, 0))] := by
  rw [List.take_succ_eq_append_getElem h, List.map_append]
  simp [List.getD, h]
end M
open Go.RowKit Go.Maps

def HandsC (w w' : World) (L : List M.Chg) (E : Int) (e : Ending) : Prop := ∃ a n cap, e = .returned (.tuple #[.slice a n cap, .int .i64 E]) ∧ Rc w' a n L ∧ n ≤ cap ∧ cap ≤ maxLen ∧ Below w.heap.size w w'
theorem HandsC.err {w w' : World} (E : Int) (hb : Below w.heap.size w w') : HandsC w w' [] E (.returned (.tuple #[.slice none 0 0, .int .i64 E])) := ⟨none, 0, 0, rfl, ⟨rfl, Or.inl rfl⟩, Nat.le_refl _, by simp [maxLen], hb⟩

set_option maxHeartbeats 4000000 in
theorem back_any (a : Option Addr) (n cap : Nat) (d : List M.Chg) (w : World) (h : Rc w a n d) (hm : n ≤ 9223372036854775807) :
    Calls Try.prog 24 #[.slice a n cap] w fun e w' => HandsC w w' (M.backV d) (M.backE d) e := by
  have K := dright_any a n cap d w h hm
  by_cases hf : M.fine d = true
  · have e1 : M.backE d = 0 := by unfold M.backE; rw [if_pos hf]
    have e2 : M.backV d = d.map M.swapC := by unfold M.backV; rw [if_pos hf]
    rw [e1, e2]
    rw [hf] at K
    have KK : Hid (Calls Try.prog 49 #[.slice a n cap] w fun e w' => e = .returned (.bool true) ∧ Below w.heap.size w w') := K
    have hn100 : n ≤ 100 := by have := ((M.fine_iff d).1 hf).len (by omega); have h1 := h.1; omega
    have HR : Aside (Rc w a n d) := h
    clear K h hf e1 e2
    go_enter Try.func24, Try.ntmps24
    go_wp2_with fail
    refine KK.out.mono ?_
    rintro e w1 ⟨rfl, hb1⟩
    have HR1 : Aside (Rc w1 a n d) := HR.out.below hb1 (Nat.le_refl _)
    have hs1 := hb1.size
    clear KK HR
    go_wp2
    go_loopg [4, 12] n (fun g v ix wr => ∃ i : Nat, i + g = n ∧ ix = .int .i64 i ∧ Aside (OwnC wr w1.heap.size v ((d.take i).map M.swapC)) ∧ Below w1.heap.size w1 wr)
    case atStart => exact ⟨0, by omega, rfl, OwnC.nil _ _, Below.refl _ _⟩
    case round =>
      obtain ⟨i, hig, rfl, HO, hbel⟩ := hrel
      have hsz := hbel.size
      by_cases hlt : i < n
      · have hii : (i : Int) < (n : Int) := by omega
        obtain ⟨b, off, rfl, hB, hc⟩ : ∃ b off, a = some ⟨b, off, none⟩ ∧ b < w1.heap.size ∧ ∀ i, i < n → w1.cell? ⟨b, off + i * 3, none⟩ = some (.int .i64 (d.getD i (0, 0, 0)).1) ∧ w1.cell? ⟨b, off + i * 3 + 1, none⟩ = some (.int .i64 (d.getD i (0, 0, 0)).2.1) ∧ w1.cell? ⟨b, off + i * 3 + 2, none⟩ = some (.int .i64 (d.getD i (0, 0, 0)).2.2) := by
          rcases HR1.out.cases with ⟨h0, _⟩ | ⟨b, off, e, _, _, hB, hc⟩
          · omega
          · exact ⟨b, off, e, hB, hc⟩
        obtain ⟨x, y, z, hxyz⟩ : ∃ x y z, d.getD i (0, 0, 0) = (x, y, z) := ⟨_, _, _, rfl⟩
        obtain ⟨k1, k2, k3⟩ := hc i hlt
        rw [hxyz] at k1 k2 k3
        have p0 : wr.cell? ⟨b, off + i * 3, none⟩ = some (.int .i64 x) := (hbel.cell (p := ⟨b, off + i * 3, none⟩) hB).trans k1
        have p1 : wr.cell? ⟨b, off + i * 3 + 1, none⟩ = some (.int .i64 y) := (hbel.cell (p := ⟨b, off + i * 3 + 1, none⟩) hB).trans k2
        have p2 : wr.cell? ⟨b, off + i * 3 + 2, none⟩ = some (.int .i64 z) := (hbel.cell (p := ⟨b, off + i * 3 + 2, none⟩) hB).trans k3
        have HMt : Aside ((d.take (i + 1)).map M.swapC = (d.take i).map M.swapC ++ [(x, z, y)]) := by unfold Aside; rw [M.map_take d i (by rw [HR1.out.1]; exact hlt), hxyz]; rfl
        have HLe : Aside (((d.take i).map M.swapC).length + 1 ≤ 1000000) := by unfold Aside; rw [List.length_map, List.length_take]; omega
        obtain ⟨Wb, hWb⟩ : ∃ Wb, Wb = (wr.alloc (.cells #[.int .i64 x, .int .i64 y, .int .i64 z] 50)).alloc (.cells #[.int .i64 x, .int .i64 z, .int .i64 y] 50) := ⟨_, rfl⟩
        have hbb : Below wr.heap.size wr Wb := by rw [hWb]; exact ((Below.refl _ _).alloc (Nat.le_refl _) _).alloc (by simp) _
        have HOb : Aside (OwnC Wb w1.heap.size u4 ((d.take i).map M.swapC)) := HO.out.below hbb
        have hbw : Below w1.heap.size w1 Wb := hbel.trans (hbb.mono hsz)
        have HCb : Hid (∀ j, j < 1 → Wb.cell? ⟨wr.heap.size + 1, 0 + j * 3, none⟩ = some (.int .i64 (([(x, z, y)] : List M.Chg).getD j (0, 0, 0)).1) ∧ Wb.cell? ⟨wr.heap.size + 1, 0 + j * 3 + 1, none⟩ = some (.int .i64 (([(x, z, y)] : List M.Chg).getD j (0, 0, 0)).2.1) ∧ Wb.cell? ⟨wr.heap.size + 1, 0 + j * 3 + 2, none⟩ = some (.int .i64 (([(x, z, y)] : List M.Chg).getD j (0, 0, 0)).2.2)) := by rw [hWb, show wr.heap.size + 1 = (wr.alloc (.cells #[.int .i64 x, .int .i64 y, .int .i64 z] 50)).heap.size by simp]; exact rc_one _ _ _ _
        have HWb : Hid (Wb = (wr.alloc (.cells #[.int .i64 x, .int .i64 y, .int .i64 z] 50)).alloc (.cells #[.int .i64 x, .int .i64 z, .int .i64 y] 50)) := hWb
        clear hc hxyz k1 k2 k3 hWb hbb HO
        go_wp2_with (at_builtin; rw [← HWb.out]; refine append_rc rfl _ _ rfl w1.heap.size _ ((d.take i).map M.swapC) rfl HOb.out (wr.heap.size + 1) 1 1 [(x, z, y)] rfl rfl HCb.out HLe.out (by have := hbw.size; omega) ?_)
        intro v' w2 ho' hb3 _
        have HO2 : Aside (OwnC w2 w1.heap.size v' ((d.take (i + 1)).map M.swapC)) := by unfold Aside; rw [HMt.out]; simpa [List.map_take] using ho'
        have hb4 : Below w1.heap.size w1 w2 := hbw.trans hb3
        clear ho' hb3
        go_wp2
        go_roundg (gk - 1)
        case measure => omega
        case rel => exact ⟨i + 1, by omega, by go_num, HO2, hb4⟩
      · have e1 : d.take i = d := List.take_of_length_le (by rw [HR1.out.1]; omega)
        have HO2 : Aside (OwnC wr w1.heap.size u4 (d.map M.swapC)) := by have h := HO.out; rw [e1] at h; exact h
        obtain ⟨va, vc, hv, hr, hl, hm2⟩ := HO2.out.rc
        have HV : Hid (u4 = .slice va (d.map M.swapC).length vc) := hv
        have HVr : Hid (Rc wr va (d.map M.swapC).length (d.map M.swapC)) := hr
        clear e1 hv hr
        go_wp2
        go_ret2
        rw [HV.out]
        exact ⟨va, _, vc, rfl, HVr.out, hl, hm2, hb1.trans (hbel.mono hs1)⟩
  · have e1 : M.backE d = 1 := by unfold M.backE; rw [if_neg hf]
    have e2 : M.backV d = [] := by unfold M.backV; rw [if_neg hf]
    rw [e1, e2]
    have hf2 : M.fine d = false := by simpa using hf
    rw [hf2] at K
    have KK : Hid (Calls Try.prog 49 #[.slice a n cap] w fun e w' => e = .returned (.bool false) ∧ Below w.heap.size w w') := K
    clear K h hf e1 e2 hf2
    go_enter Try.func24, Try.ntmps24
    go_wp2_with fail
    refine KK.out.mono ?_
    rintro e w1 ⟨rfl, hb1⟩
    go_wp2
    go_ret2
    exact HandsC.err 1 hb1
end Go.Proofs.Ytcgpgflnihjpiac
