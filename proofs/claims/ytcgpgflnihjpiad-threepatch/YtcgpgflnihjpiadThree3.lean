/- three.Merge. -/
import Derived.Test.YtcgpgflnihjpiadThree2
import Derived.Test.YtcgpgflnihjpiadPatch2
namespace Go.Proofs.Ytcgpgflnihjpiad
open Go.RowKit

/-- Rows, keys and an error are handed back. -/
def Hands3 (w w' : World) (R : List (Int × Int)) (K : List Int) (E : Int) (e : Ending) : Prop :=
  ∃ a n cap b m c, e = .returned (.tuple #[.slice a n cap, .slice b m c, .int .i64 E]) ∧ Rd w' a n R ∧ n ≤ cap ∧ cap ≤ maxLen ∧ (a = none → n = 0 ∧ cap = 0) ∧ Ri w' b m K ∧ m ≤ c ∧ c ≤ maxLen ∧ Below w.heap.size w w'
theorem Hands3.err {w w' : World} (E : Int) (hb : Below w.heap.size w w') : Hands3 w w' [] [] E (.returned (.tuple #[.slice none 0 0, .slice none 0 0, .int .i64 E])) :=
  ⟨none, 0, 0, none, 0, 0, rfl, ⟨rfl, Or.inl rfl⟩, Nat.le_refl _, by simp [maxLen], fun _ => ⟨rfl, rfl⟩, ⟨rfl, Or.inl rfl⟩, Nat.le_refl _, by simp [maxLen], hb⟩
def M.mergeV (b l m : List (Int × Int)) : List (Int × Int) := if M.mergeE b l m = 0 then M.mrows b l m else []
def M.mergeK (b l m : List (Int × Int)) : List Int := if M.mergeE b l m = 0 then M.mkeys b l m else []

/-- .. the rows in rows of the call's own. -/
def Hands3O (w w' : World) (R : List (Int × Int)) (K : List Int) (E : Int) (e : Ending) : Prop :=
  ∃ a n cap b m c, e = .returned (.tuple #[.slice a n cap, .slice b m c, .int .i64 E]) ∧ Rd w' a n R ∧ n ≤ cap ∧ cap ≤ maxLen ∧ ((a = none → n = 0 ∧ cap = 0) ∧ Own w' w.heap.size (.slice a n cap) R) ∧ Ri w' b m K ∧ m ≤ c ∧ c ≤ maxLen ∧ Below w.heap.size w w'
theorem Hands3O.err {w w' : World} (E : Int) (hb : Below w.heap.size w w') : Hands3O w w' [] [] E (.returned (.tuple #[.slice none 0 0, .slice none 0 0, .int .i64 E])) :=
  ⟨none, 0, 0, none, 0, 0, rfl, ⟨rfl, Or.inl rfl⟩, Nat.le_refl _, by simp [maxLen], ⟨fun _ => ⟨rfl, rfl⟩, World.ownsRow_nil _ _ _ _⟩, ⟨rfl, Or.inl rfl⟩, Nat.le_refl _, by simp [maxLen], hb⟩
theorem Hands3O.hands {w w' : World} {R : List (Int × Int)} {K : List Int} {E : Int} {e : Ending} (h : Hands3O w w' R K E e) : Hands3 w w' R K E e := by
  obtain ⟨a, n, cap, b, m, c, h1, h2, h3, h4, h5, h6⟩ := h
  exact ⟨a, n, cap, b, m, c, h1, h2, h3, h4, h5.1, h6⟩

set_option maxRecDepth 100000 in
set_option maxHeartbeats 8000000 in
theorem merge_own (a1 a2 a3 : Option Addr) (n1 n2 n3 c1 c2 c3 : Nat) (b l m : List (Int × Int)) (w : World) (h1 : Rd w a1 n1 b) (h2 : Rd w a2 n2 l) (h3 : Rd w a3 n3 m)
    (k1 : n1 ≤ 9223372036854775807) (k2 : n2 ≤ 9223372036854775807) (k3 : n3 ≤ 9223372036854775807) (hnil : a2 = none → n2 = 0 ∧ c2 = 0) :
    Calls Try.prog 19 #[.slice a1 n1 c1, .slice a2 n2 c2, .slice a3 n3 c3] w fun e w' => Hands3O w w' (M.mergeV b l m) (M.mergeK b l m) (M.mergeE b l m) e := by
  have H1 : Hid (Rd w a1 n1 b) := h1
  have H2 : Hid (Rd w a2 n2 l) := h2
  have H3 : Hid (Rd w a3 n3 m) := h3
  by_cases z1 : M.chk b = 0
  · by_cases z2 : M.chk l = 0
    · have hC1 := changes_good a1 a2 n1 n2 c1 c2 b l w h1 h2 z1 z2
      have HC1 : Hid (Calls Try.prog 44 #[.slice a1 n1 c1, .slice a2 n2 c2] w fun e w' => ∃ B, e = .returned (.tuple #[.map (some B), .int .i64 0]) ∧ Mp w' B 100 (cfun b l 100) ∧ w.heap.size ≤ B ∧ Below w.heap.size w w') := hC1
      have Z1 : Hid (M.chk b = 0) := z1
      have Z2 : Hid (M.chk l = 0) := z2
      clear hC1 h1 h2 h3
      by_cases z3 : M.chk m = 0
      · have Z3 : Hid (M.chk m = 0) := z3
        obtain ⟨E, hE⟩ : ∃ E, E = M.mergeE b l m := ⟨_, rfl⟩
        have ep := M.alone_patch (l := l) z1 z2 z3
        have HE : Hid (M.patchE l (M.alone b l m) = E) := by rw [hE]; exact ep.1
        have HEV : Hid (M.mergeV b l m = M.patchV l (M.alone b l m)) := by unfold Hid M.mergeV M.patchV; rw [ep.1, ep.2]
        have HEK : Hid (M.mergeK b l m = if E = 0 then M.mkeys b l m else []) := by unfold Hid M.mergeK; rw [hE]
        rw [← hE]
        have HM : Hid (∀ x, x = M.mergeV b l m → x = M.patchV l (M.alone b l m)) := fun x hx => hx.trans HEV.out
        obtain ⟨LV, hLV⟩ : ∃ LV, LV = M.mergeV b l m := ⟨_, rfl⟩
        obtain ⟨LK, hLK⟩ : ∃ LK, LK = M.mergeK b l m := ⟨_, rfl⟩
        rw [← hLV, ← hLK]
        have HLV : Hid (LV = M.patchV l (M.alone b l m)) := HM.out LV hLV
        have HLK : Hid (LK = if E = 0 then M.mkeys b l m else []) := hLK.trans HEK.out
        clear z1 z2 z3 hE ep HM hLV hLK HEV HEK
        go_enter Try.func19, Try.ntmps19
        go_wp2_with fail
        refine HC1.out.mono ?_
        rintro e w1 ⟨Q, rfl, hQ, hQw, hb1⟩
        have HQ : Hid (Mp w1 Q 100 (cfun b l 100)) := hQ
        have hC2 := changes_good a1 a3 n1 n3 c1 c3 b m w1 (H1.out.below hb1 (Nat.le_refl _)) (H3.out.below hb1 (Nat.le_refl _)) Z1.out Z3.out
        have HC2 : Hid (Calls Try.prog 44 #[.slice a1 n1 c1, .slice a3 n3 c3] w1 fun e w' => ∃ B, e = .returned (.tuple #[.map (some B), .int .i64 0]) ∧ Mp w' B 100 (cfun b m 100) ∧ w1.heap.size ≤ B ∧ Below w1.heap.size w1 w') := hC2
        clear hC2 hQ HC1
        go_wp2_with fail
        refine HC2.out.mono ?_
        rintro e w2 ⟨P, rfl, hP, hPw, hb2⟩
        have c2' : Below w.heap.size w w2 := hb1.trans (hb2.mono hb1.size)
        have HPt := part_any P Q b l m w2 hP (HQ.out.below hb2 HQ.out.lt)
        have HPP : Hid (Calls Try.prog 45 #[.map (some P), .map (some Q)] w2 fun e w' => ∃ v u, e = .returned (.tuple #[v, u]) ∧ OwnC w' w2.heap.size v (M.alone b l m) ∧ OwnI w' w2.heap.size u (M.mkeys b l m) ∧ Below w2.heap.size w2 w') := HPt
        clear HPt hP HC2 hb1 hb2 HQ hQw hPw
        go_wp2_with fail
        refine HPP.out.mono ?_
        rintro e w3 ⟨v, u, rfl, hv, hu, hb3⟩
        have c3' : Below w.heap.size w w3 := c2'.trans (hb3.mono c2'.size)
        obtain ⟨va, vc, rfl, hvr, hvl, hvm⟩ := hv.rc
        obtain ⟨ua, uc, rfl, hur, hul, hum⟩ := hu.ri
        have hPa := patch_own a2 n2 c2 l va _ vc (M.alone b l m) w3 (H2.out.below c3' (Nat.le_refl _)) k2 hnil hvr (by unfold maxLen at hvm; omega)
        rw [HE.out, ← HLV.out] at hPa
        obtain ⟨vn, hvn⟩ : ∃ vn, vn = (M.alone b l m).length := ⟨_, rfl⟩
        obtain ⟨un, hun⟩ : ∃ un, un = (M.mkeys b l m).length := ⟨_, rfl⟩
        rw [← hvn] at hPa ⊢
        rw [← hun] at hur hul ⊢
        have HPa : Hid (Calls Try.prog 12 #[.slice a2 n2 c2, .slice va vn vc] w3 fun e w' => HandsO w3 w' LV E e) := hPa
        have HUr : Hid (Ri w3 ua un (M.mkeys b l m)) := hur
        clear hPa hvr hur hv hu hb3 c2' HPP hvl hvm hvn hun
        go_wp2_with fail
        refine HPa.out.mono ?_
        rintro e w4 ⟨a4, n4, c4, rfl, hr4, hn4, hc4, hz4, hb4⟩
        have c4' : Below w.heap.size w w4 := c3'.trans (hb4.mono c3'.size)
        have HU4 : Hid (Ri w4 ua un (M.mkeys b l m)) := HUr.out.below hb4 (Nat.le_refl _)
        have HR4 : Hid (Rd w4 a4 n4 LV) := hr4
        have HZ4 : Hid ((a4 = none → n4 = 0 ∧ c4 = 0) ∧ Own w4 w.heap.size (.slice a4 n4 c4) LV) := ⟨hz4.1, hz4.2.lower c3'.size⟩
        clear hr4 hz4 hb4 c3' HPa HUr
        by_cases hE0 : E = 0
        · have hne : (E != 0) = false := by simp [hE0]
          have HLK2 : Hid (LK = M.mkeys b l m) := by rw [HLK.out, if_pos hE0]; exact rfl
          have HE0 : Hid (E = 0) := hE0
          clear hE0
          go_wp2
          go_ret3
          rw [HE0.out, HLK2.out]
          exact ⟨a4, n4, c4, ua, un, uc, rfl, HR4.out, hn4, hc4, HZ4.out, HU4.out, hul, hum, c4'⟩
        · have hne : (E != 0) = true := by simp [hE0]
          have HLK2 : Hid (LK = []) := by rw [HLK.out, if_neg hE0]; exact rfl
          have HLV2 : Hid (LV = []) := by rw [HLV.out]; unfold Hid M.patchV; rw [HE.out, if_neg hE0]
          clear hE0
          go_wp2
          go_ret3
          rw [HLV2.out, HLK2.out]
          exact Hands3O.err E c4'
      · have e0 : M.mergeE b l m = M.chk m := by unfold M.mergeE; rw [z1, z2]; simp [z3]
        have e1 : M.mergeV b l m = [] := by unfold M.mergeV; rw [e0, if_neg z3]
        have e2 : M.mergeK b l m = [] := by unfold M.mergeK; rw [e0, if_neg z3]
        rw [e0, e1, e2]
        obtain ⟨c, hc⟩ : ∃ c, c = M.chk m := ⟨_, rfl⟩
        have HC : Hid (M.chk m = c) := hc.symm
        have HNZ : Hid (M.chk m ≠ 0) := z3
        rw [← hc] at z3 ⊢
        have hne : (c != 0) = true := by simp [z3]
        clear z1 z2 z3 hc e0 e1 e2
        go_enter Try.func19, Try.ntmps19
        go_wp2_with fail
        refine HC1.out.mono ?_
        rintro e w1 ⟨Q, rfl, hQ, hQw, hb1⟩
        have hC2 := changes_bad2 a1 a3 n1 n3 c1 c3 b m w1 (H1.out.below hb1 (Nat.le_refl _)) (H3.out.below hb1 (Nat.le_refl _)) k1 k3 Z1.out HNZ.out
        rw [HC.out] at hC2
        have HC2 : Hid (Calls Try.prog 44 #[.slice a1 n1 c1, .slice a3 n3 c3] w1 fun e w' => e = .returned (.tuple #[.map none, .int .i64 c]) ∧ Below w1.heap.size w1 w') := hC2
        clear hC2 hQ HC1 hQw
        go_wp2_with fail
        refine HC2.out.mono ?_
        rintro e w2 ⟨rfl, hb2⟩
        have c2' : Below w.heap.size w w2 := hb1.trans (hb2.mono hb1.size)
        go_wp2
        go_ret3
        exact Hands3O.err c c2'
    · have e0 : M.mergeE b l m = M.chk l := by unfold M.mergeE; rw [z1]; simp [z2]
      have e1 : M.mergeV b l m = [] := by unfold M.mergeV; rw [e0, if_neg z2]
      have e2 : M.mergeK b l m = [] := by unfold M.mergeK; rw [e0, if_neg z2]
      rw [e0, e1, e2]
      have hC1 := changes_bad2 a1 a2 n1 n2 c1 c2 b l w h1 h2 k1 k2 z1 z2
      obtain ⟨c, hc⟩ : ∃ c, c = M.chk l := ⟨_, rfl⟩
      rw [← hc] at z2 hC1 ⊢
      have HC1 : Hid (Calls Try.prog 44 #[.slice a1 n1 c1, .slice a2 n2 c2] w fun e w' => e = .returned (.tuple #[.map none, .int .i64 c]) ∧ Below w.heap.size w w') := hC1
      have hne : (c != 0) = true := by simp [z2]
      clear z1 z2 hc e0 e1 e2 hC1 h1 h2 h3
      go_enter Try.func19, Try.ntmps19
      go_wp2_with fail
      refine HC1.out.mono ?_
      rintro e w2 ⟨rfl, hb2⟩
      go_wp2
      go_ret3
      exact Hands3O.err c hb2
  · have e0 : M.mergeE b l m = M.chk b := by unfold M.mergeE; simp [z1]
    have e1 : M.mergeV b l m = [] := by unfold M.mergeV; rw [e0, if_neg z1]
    have e2 : M.mergeK b l m = [] := by unfold M.mergeK; rw [e0, if_neg z1]
    rw [e0, e1, e2]
    have hC1 := changes_bad1 a1 a2 n1 n2 c1 c2 b w h1 k1 z1
    obtain ⟨c, hc⟩ : ∃ c, c = M.chk b := ⟨_, rfl⟩
    rw [← hc] at z1 hC1 ⊢
    have HC1 : Hid (Calls Try.prog 44 #[.slice a1 n1 c1, .slice a2 n2 c2] w fun e w' => e = .returned (.tuple #[.map none, .int .i64 c]) ∧ Below w.heap.size w w') := hC1
    have hne : (c != 0) = true := by simp [z1]
    clear z1 hc e0 e1 e2 hC1 h1 h2 h3
    go_enter Try.func19, Try.ntmps19
    go_wp2_with fail
    refine HC1.out.mono ?_
    rintro e w2 ⟨rfl, hb2⟩
    go_wp2
    go_ret3
    exact Hands3O.err c hb2
theorem merge_any (a1 a2 a3 : Option Addr) (n1 n2 n3 c1 c2 c3 : Nat) (b l m : List (Int × Int)) (w : World) (h1 : Rd w a1 n1 b) (h2 : Rd w a2 n2 l) (h3 : Rd w a3 n3 m)
    (k1 : n1 ≤ 9223372036854775807) (k2 : n2 ≤ 9223372036854775807) (k3 : n3 ≤ 9223372036854775807) (hnil : a2 = none → n2 = 0 ∧ c2 = 0) :
    Calls Try.prog 19 #[.slice a1 n1 c1, .slice a2 n2 c2, .slice a3 n3 c3] w fun e w' => Hands3 w w' (M.mergeV b l m) (M.mergeK b l m) (M.mergeE b l m) e := (merge_own a1 a2 a3 n1 n2 n3 c1 c2 c3 b l m w h1 h2 h3 k1 k2 k3 hnil).mono fun _ _ h => h.hands
end Go.Proofs.Ytcgpgflnihjpiad
