/- Three3. -/
import Derived.Test.YtcgpgflnihjpiagGreatBRestRepos07
import Derived.Test.YtcgpgflnihjpiagGreatBRestRepos06
import Derived.Test.YtcgpgflnihjpiagGreatBRestRepos05
import Derived.Deep.RegionLaw
import Derived.Lib.SliceRun
import Derived.Lib.LazyBuf
namespace Go.Proofs.YtcgpgflnihjpiagGreat
open Go.RowKit
def M.mergeV (b l m : List (Int × Int)) : List (Int × Int) := if M.mergeE b l m = 0 then M.mrows b l m else []
def M.mergeK (b l m : List (Int × Int)) : List Int := if M.mergeE b l m = 0 then M.mkeys b l m else []
def Hands3O (w w' : World) (R : List (Int × Int)) (K : List Int) (E : Int) (e : Ending) : Prop :=
  ∃ a n cap b m c, e = .returned (.tuple #[.slice a n cap, .slice b m c, .int .i64 E]) ∧ Rd w' a n R ∧ n ≤ cap ∧ cap ≤ maxLen ∧ ((a = none → n = 0 ∧ cap = 0) ∧ Own w' w.heap.size (.slice a n cap) R) ∧ Ri w' b m K ∧ m ≤ c ∧ c ≤ maxLen ∧ Below w.heap.size w w'
theorem Hands3O.err {w w' : World} (E : Int) (hb : Below w.heap.size w w') : Hands3O w w' [] [] E (.returned (.tuple #[.slice none 0 0, .slice none 0 0, .int .i64 E])) :=
  ⟨none, 0, 0, none, 0, 0, rfl, ⟨rfl, Or.inl rfl⟩, Nat.le_refl _, by simp [maxLen], ⟨fun _ => ⟨rfl, rfl⟩, World.ownsRow_nil _ _ _ _⟩, ⟨rfl, Or.inl rfl⟩, Nat.le_refl _, by simp [maxLen], hb⟩
set_option maxRecDepth 100000 in
set_option maxHeartbeats 8000000 in
theorem merge_own (a1 a2 a3 : Option Addr) (n1 n2 n3 c1 c2 c3 : Nat) (b l m : List (Int × Int)) (w : World) (h1 : Rd w a1 n1 b) (h2 : Rd w a2 n2 l) (h3 : Rd w a3 n3 m)
    (k1 : n1 ≤ 9223372036854775807) (k2 : n2 ≤ 9223372036854775807) (k3 : n3 ≤ 9223372036854775807) (hnil : a2 = none → n2 = 0 ∧ c2 = 0) :
    Calls Tryz.prog 87 #[.slice a1 n1 c1, .slice a2 n2 c2, .slice a3 n3 c3] w fun e w' => Hands3O w w' (M.mergeV b l m) (M.mergeK b l m) (M.mergeE b l m) e := by
  have H1 : Hid (Rd w a1 n1 b) := h1
  have H2 : Hid (Rd w a2 n2 l) := h2
  have H3 : Hid (Rd w a3 n3 m) := h3
  by_cases z1 : M.chk b = 0
  · by_cases z2 : M.chk l = 0
    · have hC1 := changes_good a1 a2 n1 n2 c1 c2 b l w h1 h2 z1 z2
      have HC1 : Hid (Calls Tryz.prog 120 #[.slice a1 n1 c1, .slice a2 n2 c2] w fun e w' => ∃ B, e = .returned (.tuple #[.map (some B), .int .i64 0]) ∧ Mp w' B 100 (cfun b l 100) ∧ w.heap.size ≤ B ∧ Below w.heap.size w w') := hC1
      have Z1 : Hid (M.chk b = 0) := z1
      have Z2 : Hid (M.chk l = 0) := z2
      clear hC1 h1 h2 h3
      by_cases z3 : M.chk m = 0
      · have Z3 : Hid (M.chk m = 0) := z3
        obtain ⟨E, hE⟩ : ∃ E, E = M.mergeE b l m := ⟨_, rfl⟩
        have ep := M.alone_patch (l := l) z1 z2 z3
        have HE : Hid (M.patchE l (M.alone b l m) = E) := by rw [hE]; exact ep.1
        have HEV : Hid (M.mergeV b l m = M.patchV l (M.alone b l m)) := by unfold Hid M.mergeV M.patchV; rw [ep.1, ep.2]
        have HEK : Hid (M.mergeK b l m = if E = 0 then M.mkeys b l m else []) := by unfold Hid M.mergeK; rw [hE]
        rw [← hE]
        have HM : Hid (∀ x, x = M.mergeV b l m → x = M.patchV l (M.alone b l m)) := fun x hx => hx.trans HEV.out
        obtain ⟨LV, hLV⟩ : ∃ LV, LV = M.mergeV b l m := ⟨_, rfl⟩
        obtain ⟨LK, hLK⟩ : ∃ LK, LK = M.mergeK b l m := ⟨_, rfl⟩
        rw [← hLV, ← hLK]
        have HLV : Hid (LV = M.patchV l (M.alone b l m)) := HM.out LV hLV
        have HLK : Hid (LK = if E = 0 then M.mkeys b l m else []) := hLK.trans HEK.out
        clear z1 z2 z3 hE ep HM hLV hLK HEV HEK
        go_enter Tryz.func87, Tryz.ntmps87
        go_wp2_with fail
        refine HC1.out.mono ?_
        rintro e w1 ⟨Q, rfl, hQ, hQw, hb1⟩
        have HQ : Hid (Mp w1 Q 100 (cfun b l 100)) := hQ
        have hC2 := changes_good a1 a3 n1 n3 c1 c3 b m w1 (H1.out.below hb1 (Nat.le_refl _)) (H3.out.below hb1 (Nat.le_refl _)) Z1.out Z3.out
        have HC2 : Hid (Calls Tryz.prog 120 #[.slice a1 n1 c1, .slice a3 n3 c3] w1 fun e w' => ∃ B, e = .returned (.tuple #[.map (some B), .int .i64 0]) ∧ Mp w' B 100 (cfun b m 100) ∧ w1.heap.size ≤ B ∧ Below w1.heap.size w1 w') := hC2
        clear hC2 hQ HC1
        go_wp2_with fail
        refine HC2.out.mono ?_
        rintro e w2 ⟨P, rfl, hP, hPw, hb2⟩
        have c2' : Below w.heap.size w w2 := hb1.trans (hb2.mono hb1.size)
        have HPt := part_any P Q b l m w2 hP (HQ.out.below hb2 HQ.out.lt)
        have HPP : Hid (Calls Tryz.prog 121 #[.map (some P), .map (some Q)] w2 fun e w' => ∃ v u, e = .returned (.tuple #[v, u]) ∧ OwnC w' w2.heap.size v (M.alone b l m) ∧ OwnI w' w2.heap.size u (M.mkeys b l m) ∧ Below w2.heap.size w2 w') := HPt
        clear HPt hP HC2 hb1 hb2 HQ hQw hPw
        go_wp2_with fail
        refine HPP.out.mono ?_
        rintro e w3 ⟨v, u, rfl, hv, hu, hb3⟩
        have c3' : Below w.heap.size w w3 := c2'.trans (hb3.mono c2'.size)
        obtain ⟨va, vc, rfl, hvr, hvl, hvm⟩ := hv.rc
        obtain ⟨ua, uc, rfl, hur, hul, hum⟩ := hu.ri
        have hPa := patch_own a2 n2 c2 l va _ vc (M.alone b l m) w3 (H2.out.below c3' (Nat.le_refl _)) k2 hnil hvr (by unfold maxLen at hvm; omega)
        rw [HE.out, ← HLV.out] at hPa
        obtain ⟨vn, hvn⟩ : ∃ vn, vn = (M.alone b l m).length := ⟨_, rfl⟩
        obtain ⟨un, hun⟩ : ∃ un, un = (M.mkeys b l m).length := ⟨_, rfl⟩
        rw [← hvn] at hPa ⊢
        rw [← hun] at hur hul ⊢
        have HPa : Hid (Calls Tryz.prog 73 #[.slice a2 n2 c2, .slice va vn vc] w3 fun e w' => HandsO w3 w' LV E e) := hPa
        have HUr : Hid (Ri w3 ua un (M.mkeys b l m)) := hur
        clear hPa hvr hur hv hu hb3 c2' HPP hvl hvm hvn hun
        go_wp2_with fail
        refine HPa.out.mono ?_
        rintro e w4 ⟨a4, n4, c4, rfl, hr4, hn4, hc4, hz4, hb4⟩
        have c4' : Below w.heap.size w w4 := c3'.trans (hb4.mono c3'.size)
        have HU4 : Hid (Ri w4 ua un (M.mkeys b l m)) := HUr.out.below hb4 (Nat.le_refl _)
        have HR4 : Hid (Rd w4 a4 n4 LV) := hr4
        have HZ4 : Hid ((a4 = none → n4 = 0 ∧ c4 = 0) ∧ Own w4 w.heap.size (.slice a4 n4 c4) LV) := ⟨hz4.1, hz4.2.lower c3'.size⟩
        clear hr4 hz4 hb4 c3' HPa HUr
        by_cases hE0 : E = 0
        · have hne : (E != 0) = false := by simp [hE0]
          have HLK2 : Hid (LK = M.mkeys b l m) := by rw [HLK.out, if_pos hE0]; exact rfl
          have HE0 : Hid (E = 0) := hE0
          clear hE0
          go_wp2
          go_ret3
          rw [HE0.out, HLK2.out]
          exact ⟨a4, n4, c4, ua, un, uc, rfl, HR4.out, hn4, hc4, HZ4.out, HU4.out, hul, hum, c4'⟩
        · have hne : (E != 0) = true := by simp [hE0]
          have HLK2 : Hid (LK = []) := by rw [HLK.out, if_neg hE0]; exact rfl
          have HLV2 : Hid (LV = []) := by rw [HLV.out]; unfold Hid M.patchV; rw [HE.out, if_neg hE0]
          clear hE0
          go_wp2
          go_ret3
          rw [HLV2.out, HLK2.out]
          exact Hands3O.err E c4'
      · have e0 : M.mergeE b l m = M.chk m := by unfold M.mergeE; rw [z1, z2]; simp [z3]
        have e1 : M.mergeV b l m = [] := by unfold M.mergeV; rw [e0, if_neg z3]
        have e2 : M.mergeK b l m = [] := by unfold M.mergeK; rw [e0, if_neg z3]
        rw [e0, e1, e2]
        obtain ⟨c, hc⟩ : ∃ c, c = M.chk m := ⟨_, rfl⟩
        have HC : Hid (M.chk m = c) := hc.symm
        have HNZ : Hid (M.chk m ≠ 0) := z3
        rw [← hc] at z3 ⊢
        have hne : (c != 0) = true := by simp [z3]
        clear z1 z2 z3 hc e0 e1 e2
        go_enter Tryz.func87, Tryz.ntmps87
        go_wp2_with fail
        refine HC1.out.mono ?_
        rintro e w1 ⟨Q, rfl, hQ, hQw, hb1⟩
        have hC2 := changes_bad2 a1 a3 n1 n3 c1 c3 b m w1 (H1.out.below hb1 (Nat.le_refl _)) (H3.out.below hb1 (Nat.le_refl _)) k1 k3 Z1.out HNZ.out
        rw [HC.out] at hC2
        have HC2 : Hid (Calls Tryz.prog 120 #[.slice a1 n1 c1, .slice a3 n3 c3] w1 fun e w' => e = .returned (.tuple #[.map none, .int .i64 c]) ∧ Below w1.heap.size w1 w') := hC2
        clear hC2 hQ HC1 hQw
        go_wp2_with fail
        refine HC2.out.mono ?_
        rintro e w2 ⟨rfl, hb2⟩
        have c2' : Below w.heap.size w w2 := hb1.trans (hb2.mono hb1.size)
        go_wp2
        go_ret3
        exact Hands3O.err c c2'
    · have e0 : M.mergeE b l m = M.chk l := by unfold M.mergeE; rw [z1]; simp [z2]
      have e1 : M.mergeV b l m = [] := by unfold M.mergeV; rw [e0, if_neg z2]
      have e2 : M.mergeK b l m = [] := by unfold M.mergeK; rw [e0, if_neg z2]
      rw [e0, e1, e2]
      have hC1 := changes_bad2 a1 a2 n1 n2 c1 c2 b l w h1 h2 k1 k2 z1 z2
      obtain ⟨c, hc⟩ : ∃ c, c = M.chk l := ⟨_, rfl⟩
      rw [← hc] at z2 hC1 ⊢
      have HC1 : Hid (Calls Tryz.prog 120 #[.slice a1 n1 c1, .slice a2 n2 c2] w fun e w' => e = .returned (.tuple #[.map none, .int .i64 c]) ∧ Below w.heap.size w w') := hC1
      have hne : (c != 0) = true := by simp [z2]
      clear z1 z2 hc e0 e1 e2 hC1 h1 h2 h3
      go_enter Tryz.func87, Tryz.ntmps87
      go_wp2_with fail
      refine HC1.out.mono ?_
      rintro e w2 ⟨rfl, hb2⟩
      go_wp2
      go_ret3
      exact Hands3O.err c hb2
  · have e0 : M.mergeE b l m = M.chk b := by unfold M.mergeE; simp [z1]
    have e1 : M.mergeV b l m = [] := by unfold M.mergeV; rw [e0, if_neg z1]
    have e2 : M.mergeK b l m = [] := by unfold M.mergeK; rw [e0, if_neg z1]
    rw [e0, e1, e2]
    have hC1 := changes_bad1 a1 a2 n1 n2 c1 c2 b w h1 k1 z1
    obtain ⟨c, hc⟩ : ∃ c, c = M.chk b := ⟨_, rfl⟩
    rw [← hc] at z1 hC1 ⊢
    have HC1 : Hid (Calls Tryz.prog 120 #[.slice a1 n1 c1, .slice a2 n2 c2] w fun e w' => e = .returned (.tuple #[.map none, .int .i64 c]) ∧ Below w.heap.size w w') := hC1
    have hne : (c != 0) = true := by simp [z1]
    clear z1 hc e0 e1 e2 hC1 h1 h2 h3
    go_enter Tryz.func87, Tryz.ntmps87
    go_wp2_with fail
    refine HC1.out.mono ?_
    rintro e w2 ⟨rfl, hb2⟩
    go_wp2
    go_ret3
    exact Hands3O.err c hb2
end Go.Proofs.YtcgpgflnihjpiagGreat
namespace Go.Proofs.YtcgpgflnihjpiagGreat
open Go.RowKit Go.Shelf Go.Maps
def M.joinAt (C : List M.Com) (a b : Nat) : Int :=
  if (M.above C a).getD b false = true then 9 else if (M.above C b).getD a false = true then 0 else if 14 ≤ C.length then 2
  else if M.mergeE (M.baseR C a b) (C.getD a ([], [])).1 (C.getD b ([], [])).1 ≠ 0 then M.mergeE (M.baseR C a b) (C.getD a ([], [])).1 (C.getD b ([], [])).1
  else if (M.mergeK (M.baseR C a b) (C.getD a ([], [])).1 (C.getD b ([], [])).1).length ≠ 0 then 7 else 0
def M.joinE (C : List M.Com) (H : List M.Hd) (s t : ByteArray) : Int :=
  if M.openE C H [s, t] ≠ 0 then M.openE C H [s, t] else M.joinAt C (M.hat C H s).toNat (M.hat C H t).toNat
def M.joinC (C : List M.Com) (H : List M.Hd) (s t : ByteArray) : List M.Com :=
  if M.joinE C H s t ≠ 0 then [] else if (M.above C (M.hat C H t).toNat).getD (M.hat C H s).toNat false = true then C
  else C ++ [(M.mergeV (M.baseR C (M.hat C H s).toNat (M.hat C H t).toNat) (C.getD (M.hat C H s).toNat ([], [])).1 (C.getD (M.hat C H t).toNat ([], [])).1, [min (M.hat C H s) (M.hat C H t), max (M.hat C H s) (M.hat C H t)])]
def M.joinH (C : List M.Com) (H : List M.Hd) (s t : ByteArray) : List M.Hd :=
  if M.joinE C H s t ≠ 0 then [] else if (M.above C (M.hat C H t).toNat).getD (M.hat C H s).toNat false = true then M.mv H s (M.hat C H t) else M.mv H s C.length
def M.keysAt (C : List M.Com) (a b : Nat) : List Int :=
  if (M.above C a).getD b false = true then [] else if (M.above C b).getD a false = true then [] else if 14 ≤ C.length then []
  else if M.mergeE (M.baseR C a b) (C.getD a ([], [])).1 (C.getD b ([], [])).1 ≠ 0 then [] else M.mergeK (M.baseR C a b) (C.getD a ([], [])).1 (C.getD b ([], [])).1
def M.joinK (C : List M.Com) (H : List M.Hd) (s t : ByteArray) : List Int :=
  if M.openE C H [s, t] ≠ 0 then [] else M.keysAt C (M.hat C H s).toNat (M.hat C H t).toNat
theorem M.openE_two {C : List M.Com} {H : List M.Hd} {s t : ByteArray} (h : M.openE C H [s, t] = 0) : M.hchk C H s = 0 ∧ M.hchk C H t = 0 := by
  unfold M.openE at h
  split at h
  · rename_i h1; exact absurd h h1
  · rename_i h1
    unfold M.openE at h
    split at h
    · rename_i h2; exact absurd h h2
    · rename_i h2
      exact ⟨Decidable.not_not.1 h1, Decidable.not_not.1 h2⟩
theorem ret_three {u v : Value} {a b : Int} (h : a = b) : Ending.returned (.tuple #[u, v, .int .i64 a]) = .returned (.tuple #[u, v, .int .i64 b]) := by rw [h]
theorem wmerge1_any (db bbx abx D base : Nat) (C : List M.Com) (H : List M.Hd) (A : List Int) (a b : Nat) (w : World) (hd : w.cell? ⟨db, 0, none⟩ = some (.pointer (some ⟨D, 0, none⟩))) (hb : w.cell? ⟨bbx, 0, none⟩ = some (.int .i64 b)) (ha : w.cell? ⟨abx, 0, none⟩ = some (.int .i64 a)) (hD : DeskAt w base D C H A) (hz : M.dchk C = 0) (hal : a < C.length) (hbl : b < C.length) :
    Calls Tryz.prog 84 #[.pointer (some ⟨db, 0, none⟩), .pointer (some ⟨bbx, 0, none⟩), .pointer (some ⟨abx, 0, none⟩)] w fun e w' => e = .returned (.bool ((M.above C a).getD b false)) ∧ Below w.heap.size w w' := by
  have HK : Hid (Calls Tryz.prog 83 #[.pointer (some ⟨D, 0, none⟩), .int .i64 b, .int .i64 a] w fun e w' => e = .returned (.bool ((M.above C a).getD b false)) ∧ Below w.heap.size w w') := isAbove_any D base C H A b a w hD hz hbl hal
  go_enter Tryz.func84, Tryz.ntmps84
  go_wp2_with fail
  refine HK.out.mono ?_
  rintro e w1 ⟨rfl, hb1⟩
  go_wp2
  go_ret
  exact ⟨rfl, hb1⟩
theorem wmerge2_any (gb db D n cap : Nat) (g : Bool) (x : Option Addr) (w : World) (hg : w.cell? ⟨gb, 0, none⟩ = some (.bool g)) (hl : w.cell? ⟨db, 0, none⟩ = some (.pointer (some ⟨D, 0, none⟩))) (hx : w.cell? ⟨D, 0, none⟩ = some (.slice x n cap)) :
    Calls Tryz.prog 85 #[.pointer (some ⟨gb, 0, none⟩), .pointer (some ⟨db, 0, none⟩)] w fun e w' => e = .returned (.bool (!g && decide (14 ≤ n))) ∧ Below w.heap.size w w' := by
  cases g with
  | false =>
    go_enter Tryz.func85, Tryz.ntmps85
    go_wp2
    go_ret
    exact ⟨ret_bool (by rw [Bool.eq_iff_iff]; simp; omega), Below.refl _ _⟩
  | true =>
    go_enter Tryz.func85, Tryz.ntmps85
    go_wp2
    go_ret
    exact ⟨rfl, Below.refl _ _⟩
theorem M.joinE_at {C : List M.Com} {H : List M.Hd} {s t : ByteArray} {x y : Nat} (hz : M.openE C H [s, t] = 0) (hx : M.hat C H s = (x : Int)) (hy : M.hat C H t = (y : Int)) : M.joinE C H s t = M.joinAt C x y ∧ M.joinK C H s t = M.keysAt C x y := by
  unfold M.joinE M.joinK
  rw [if_neg (by rw [hz]; simp), if_neg (by rw [hz]; simp), hx, hy]
  exact ⟨rfl, rfl⟩
theorem M.join_first {C : List M.Com} {x y : Nat} {go : Bool} {f1 f2 : Nat} {c1 c2 : List Value} (hgo : go = (M.above C y).getD x false) {c : Int} (hc : c = firstE [⟨9, f1, c1, (M.above C x).getD y false⟩, ⟨2, f2, c2, !go && decide (14 ≤ C.length)⟩]) :
    (c ≠ 0 → M.joinAt C x y = c ∧ M.keysAt C x y = []) ∧ (c = 0 → go = true → M.joinAt C x y = 0 ∧ M.keysAt C x y = []) ∧ (c = 0 → go = false → C.length < 14 ∧ M.joinAt C x y = (if M.mergeE (M.baseR C x y) (C.getD x ([], [])).1 (C.getD y ([], [])).1 ≠ 0 then M.mergeE (M.baseR C x y) (C.getD x ([], [])).1 (C.getD y ([], [])).1
      else if (M.mergeK (M.baseR C x y) (C.getD x ([], [])).1 (C.getD y ([], [])).1).length ≠ 0 then 7 else 0) ∧ M.keysAt C x y = (if M.mergeE (M.baseR C x y) (C.getD x ([], [])).1 (C.getD y ([], [])).1 ≠ 0 then [] else M.mergeK (M.baseR C x y) (C.getD x ([], [])).1 (C.getD y ([], [])).1)) := by
  unfold M.joinAt M.keysAt
  rw [← hgo]
  generalize (M.above C x).getD y false = q at *
  cases q with
  | true => simp [firstE] at hc; subst hc; simp
  | false =>
    simp only [firstE] at hc
    cases go with
    | true => simp at hc; subst hc; simp
    | false =>
      by_cases h : 14 ≤ C.length
      · simp [h] at hc; subst hc; simp [h]
      · simp [h] at hc; subst hc; simp only [h]; simp; omega
theorem Ri.elsewhere {w : World} {kb : Option Addr} {kn R : Nat} {K : List Int} {ty : TypeId} (h : Ri w kb kn K) (hr : w.heap[R]? = some (.cells #[.slice none 0 0, .slice none 0 0] ty (0, 0))) (u v : Value) : Ri ((w.setCell ⟨R, 0, none⟩ u).setCell ⟨R, 1, none⟩ v) kb kn K := by
  obtain ⟨g1, g2, g3⟩ := res_set hr u v
  rcases h.cases with ⟨h0, hk⟩ | ⟨b, off, e, hn, hl, hlt, hc⟩
  · exact ⟨by rw [hk, h0]; rfl, Or.inl h0⟩
  · have hne : b ≠ R := by
      intro he
      subst he
      have := hc 0 hn
      rw [cell_of_row _ _ _ _ _ _ hr] at this
      match off, this with
      | 0, h => simp at h
      | 1, h => simp at h
      | k + 2, h => simp at h
    refine ⟨hl, Or.inr ⟨b, off, e, by rw [g3]; exact hlt, fun i hi => ?_⟩⟩
    rw [← hc i hi]
    simp only [World.cell?, g2 b hne]
theorem ownI_two (w : World) (base : Nat) (x y : Int) (hb : base ≤ w.heap.size) : OwnI (w.alloc (.cells #[.int .i64 x, .int .i64 y] 3)) base (.slice (some ⟨w.heap.size, 0, none⟩) 2 2) [x, y] :=
  ⟨rfl, Or.inr ⟨w.heap.size, 2, #[.int .i64 x, .int .i64 y], rfl, hb, heap_alloc_new _ _, by simp, by simp [maxLen], rfl, rfl⟩⟩
theorem M.mergeV_len {b l m : List (Int × Int)} (h : M.mergeE b l m = 0) : (M.mergeV b l m).length ≤ 40 := by
  unfold M.mergeV
  rw [if_pos h]
  unfold M.mergeE at h
  split at h
  · rename_i h1; exact absurd h h1
  · split at h
    · rename_i h1; exact absurd h h1
    · split at h
      · rename_i h1; exact absurd h h1
      · split at h
        · omega
        · omega
structure Bx (w V : World) (ab bb : Nat) (x y : Int) : Prop where
  bel : Below w.heap.size w V
  a : V.heap[ab]? = some (.cells #[.int .i64 x] 3 (0, 0))
  b : V.heap[bb]? = some (.cells #[.int .i64 y] 3 (0, 0))
  la : w.heap.size ≤ ab
  lb : w.heap.size ≤ bb
  sz : V.heap.size = w.heap.size + 2
theorem Bx.one (w : World) (x y : Int) : Bx w ((w.alloc (.cells #[.int .i64 x] 3)).alloc (.cells #[.int .i64 y] 3)).drew w.heap.size (w.heap.size + 1) x y := by
  refine ⟨(((Below.refl _ _).alloc (Nat.le_refl _) _).alloc (by simp) _).drew, ?_, ?_, Nat.le_refl _, by omega, by show ((w.alloc _).alloc _).heap.size = _; simp⟩
  · show ((w.alloc _).alloc _).heap[w.heap.size]? = _
    rw [Below.heap_alloc _ _ _ (by simp)]
    exact heap_alloc_new _ _
  · show ((w.alloc _).alloc _).heap[w.heap.size + 1]? = _
    rw [show w.heap.size + 1 = (w.alloc (.cells #[.int .i64 x] 3)).heap.size by simp]
    exact heap_alloc_new _ _
theorem Bx.swap {w V : World} {ab bb : Nat} {x y : Int} (h : Bx w V ab bb x y) : Bx w V bb ab y x := ⟨h.bel, h.b, h.a, h.lb, h.la, h.sz⟩
set_option maxRecDepth 100000 in
set_option maxHeartbeats 16000000 in
theorem wmerge_any (a : Option Addr) (n cap : Nat) (C : List M.Com) (a2 : Option Addr) (n2 cap2 : Nat) (H : List M.Hd) (s t : ByteArray) (w : World) (hV : RepoV w a n cap C a2 n2 cap2 H) :
    Calls Tryz.prog 41 #[.agg #[.slice a n cap, .slice a2 n2 cap2], .string s, .string t] w fun e w' => ∃ v kb kn kc, e = .returned (.tuple #[v, .slice kb kn kc, .int .i64 (M.joinE C H s t)]) ∧ RepoOwn w' w.heap.size v (M.joinC C H s t) (M.joinH C H s t) ∧ Ri w' kb kn (M.joinK C H s t) ∧ kn ≤ kc ∧ kc ≤ maxLen ∧ Below w.heap.size w w' := by
  obtain ⟨p, hp⟩ : ∃ p, p = w.heap.size := ⟨_, rfl⟩
  obtain ⟨W, hW⟩ : ∃ W, W = ((w.alloc (.cells #[.slice a n cap, .slice a2 n2 cap2] 35)).alloc (.cells #[.slice none 0 0, .slice none 0 0] 35)).alloc (.cells #[.string s, .string t] 9) := ⟨_, rfl⟩
  have hb : Below w.heap.size w W := by rw [hW]; exact (((Below.refl _ _).alloc (Nat.le_refl _) _).alloc (by simp) _).alloc (by simp; omega) _
  obtain ⟨R, hR⟩ : ∃ R, R = p + 1 := ⟨_, rfl⟩
  have hsz : W.heap.size = R + 2 := by rw [hW, hR, hp]; simp
  have q2 : W.heap[R]? = some (.cells #[.slice none 0 0, .slice none 0 0] 35 (0, 0)) := by
    rw [hW, Below.heap_alloc _ _ _ (by simp; omega), show R = (w.alloc (.cells #[.slice a n cap, .slice a2 n2 cap2] 35)).heap.size by rw [hR, hp]; simp]
    exact heap_alloc_new _ _
  have hNs : Ns W (R + 1) 2 [s, t] := ⟨rfl, by omega, fun i hi => by
    match i, hi with
    | 0, _ => rw [hW, hR, hp]; simp [go_sem]
    | 1, _ => rw [hW, hR, hp]; simp [go_sem]⟩
  have KO := open_any a n cap C a2 n2 cap2 H (R + 1) 2 [s, t] W (hV.later hb) hNs (by omega) (by omega)
  have HO : Hid (Calls Tryz.prog 67 #[.agg #[.slice a n cap, .slice a2 n2 cap2], .slice (some ⟨R + 1, 0, none⟩) 2 2] W fun e w' => Below W.heap.size W w' ∧
      ((M.openE C H [s, t] ≠ 0 ∧ e = .returned (.tuple #[.pointer none, .int .i64 (M.openE C H [s, t])])) ∨ (M.openE C H [s, t] = 0 ∧ M.rchk C H = 0 ∧ ∃ D, e = .returned (.tuple #[.pointer (some ⟨D, 0, none⟩), .int .i64 0]) ∧ DeskAt w' W.heap.size D C H ([s, t].map (M.hat C H))))) := KO
  have HW : Hid (W = ((w.alloc (.cells #[.slice a n cap, .slice a2 n2 cap2] 35)).alloc (.cells #[.slice none 0 0, .slice none 0 0] 35)).alloc (.cells #[.string s, .string t] 9)) := hW
  have HP : Aside (p = w.heap.size) := hp
  have HR : Aside (R = p + 1) := hR
  have hpR : p < R := by omega
  have HPR : Aside (w.heap.size ≤ p) := by unfold Aside; omega
  clear KO hW hp hV hNs hR
  go_enter Tryz.func41, Tryz.ntmps41
  go_wp2_with fail
  rw [← HW.out, ← HP.out, ← HR.out]
  refine HO.out.mono ?_
  rintro e w1 ⟨b1, hor⟩
  have hs1 := b1.size
  have hRl : R < w1.heap.size := by omega
  have r2 : w1.heap[R]? = some (.cells #[.slice none 0 0, .slice none 0 0] 35 (0, 0)) := (b1.block (R) (by omega)).trans q2
  have hbw : Below w.heap.size w w1 := hb.trans (b1.mono hb.size)
  rcases hor with ⟨hne0, rfl⟩ | ⟨hz, hr0, D, rfl, hD⟩
  · have E : Aside (M.joinE C H s t = M.openE C H [s, t]) := by unfold Aside M.joinE; rw [if_pos hne0]
    have EC : Aside (M.joinC C H s t = [] ∧ M.joinH C H s t = [] ∧ M.joinK C H s t = []) := ⟨by unfold M.joinC; rw [E.out, if_pos hne0], by unfold M.joinH; rw [E.out, if_pos hne0], by unfold M.joinK; rw [if_pos hne0]⟩
    obtain ⟨c, hc⟩ : ∃ c, c = M.openE C H [s, t] := ⟨_, rfl⟩
    rw [← hc] at E hne0 ⊢
    have hne : (c != 0) = true := by simp [hne0]
    obtain ⟨g1, g2, g3⟩ := res_set r2 (.slice none 0 0) (.slice none 0 0)
    obtain ⟨Y, hY⟩ : ∃ Y, Y = (w1.setCell ⟨R, 0, none⟩ (.slice none 0 0)).setCell ⟨R, 1, none⟩ (.slice none 0 0) := ⟨_, rfl⟩
    rw [← hY] at g1 g3
    have bY : Below w.heap.size w Y := by rw [hY]; exact (hbw.setCell (p := ⟨R, 0, none⟩) (by show _ ≤ R; have := HPR.out; omega) _).setCell (p := ⟨R, 1, none⟩) (by show _ ≤ R; have := HPR.out; omega) _
    obtain ⟨X, hX⟩ : ∃ X, X = Y.alloc (.cells #[.pointer none] 106) := ⟨_, rfl⟩
    have bX : Below w.heap.size w X := by rw [hX]; exact bY.alloc bY.size _
    have gX : X.heap[R]? = some (.cells #[.slice none 0 0, .slice none 0 0] 35 (0, 0)) := by rw [hX, Below.heap_alloc _ _ _ (by omega)]; exact g1
    have HX9 : Hid (X = ((w1.setCell ⟨R, 0, none⟩ (.slice none 0 0)).setCell ⟨R, 1, none⟩ (.slice none 0 0)).alloc (.cells #[.pointer none] 106)) := by rw [← hY]; exact hX
    have HX0 : Aside (X.cell? ⟨R, 0, none⟩ = some (.slice none 0 0)) := by unfold Aside; rw [cell_of_row _ _ _ _ _ _ gX]; rfl
    have HX1 : Aside (X.cell? ⟨R, 1, none⟩ = some (.slice none 0 0)) := by unfold Aside; rw [cell_of_row _ _ _ _ _ _ gX]; rfl
    have x0 : w1.cell? ⟨R, 0, none⟩ = some (.slice none 0 0) := by rw [cell_of_row _ _ _ _ _ _ r2]; rfl
    have x1 : w1.cell? ⟨R, 1, none⟩ = some (.slice none 0 0) := by rw [cell_of_row _ _ _ _ _ _ r2]; rfl
    have f0 : w1.frozen? ⟨R, 0, none⟩ = false := frozen_of_row _ _ _ _ _ r2
    have f1 : w1.frozen? ⟨R, 1, none⟩ = false := frozen_of_row _ _ _ _ _ r2
    clear g1 g2 g3 hX gX hY bY r2 hne0 hc
    go_wp2
    rw [← HX9.out]
    have y0 := HX0.out
    have y1 := HX1.out
    refine bodyPost_ret (v := .tuple #[.agg #[.slice none 0 0, .slice none 0 0], .slice none 0 0, .int .i64 c]) (by simp [results, Tryz.results41, go_sem, y0, y1]) rfl ?_
    refine ⟨_, none, 0, 0, ret_three E.out.symm, ?_, by rw [EC.out.2.2]; exact ⟨rfl, Or.inl rfl⟩, Nat.le_refl _, by simp [maxLen], bX⟩
    rw [EC.out.1, EC.out.2.1]; exact RepoOwn.none _ _
  · have hlen := M.rchk_zero hr0
    have hC14 : C.length ≤ 14 := (M.dchk_zero hlen.1).1
    have hH4 : H.length ≤ 4 := hlen.2.1
    obtain ⟨hzs, hzt⟩ := M.openE_two hz
    have hat := M.hat_in hzs
    have hbt := M.hat_in hzt
    have hplc : 0 ≤ M.plc H s := (M.hchk_zero hzs).2
    obtain ⟨x, hx⟩ : ∃ x : Nat, M.hat C H s = (x : Int) := ⟨(M.hat C H s).toNat, by omega⟩
    obtain ⟨y, hy⟩ : ∃ y : Nat, M.hat C H t = (y : Int) := ⟨(M.hat C H t).toNat, by omega⟩
    rw [hx] at hat
    rw [hy] at hbt
    have hxl : x < C.length := by omega
    have hyl : y < C.length := by omega
    have hDm : DeskAt w1 W.heap.size D C H [(x : Int), (y : Int)] := by have h := hD; simp only [List.map_cons, List.map_nil, hx, hy] at h; exact h
    have hDl := hDm.lt
    have hDb : R + 2 ≤ D := by obtain ⟨_, _, _, _, h2, _⟩ := hDm; omega
    obtain ⟨db, hdb⟩ : ∃ db, db = w1.heap.size := ⟨_, rfl⟩
    obtain ⟨w2, hw2⟩ : ∃ w2, w2 = w1.alloc (.cells #[.pointer (some ⟨D, 0, none⟩)] 106) := ⟨_, rfl⟩
    have b2 : Below w1.heap.size w1 w2 := by rw [hw2]; exact (Below.refl _ _).alloc (Nat.le_refl _) _
    have D2 : DeskAt w2 W.heap.size D C H [(x : Int), (y : Int)] := hDm.later b2
    have HD2 : Aside (DeskAt w2 W.heap.size D C H [(x : Int), (y : Int)]) := D2
    have hs2 : w2.heap.size = db + 1 := by rw [hw2, hdb]; simp
    have blkd : w2.heap[db]? = some (.cells #[.pointer (some ⟨D, 0, none⟩)] 106 (0, 0)) := by rw [hw2, hdb]; exact heap_alloc_new _ _
    obtain ⟨vx, vy, vz, e1, _, _, _, e5⟩ := D2
    obtain ⟨zg, zc, rfl⟩ : ∃ zg zc, vz = .slice (some ⟨zg, 0, none⟩) 2 zc := by
      rcases e5.2 with ⟨_, e⟩ | ⟨g, cap, _, e, _⟩
      · simp at e
      · exact ⟨g, cap, e⟩
    have k0 : w2.cell? ⟨db, 0, none⟩ = some (.pointer (some ⟨D, 0, none⟩)) := by rw [cell_of_row _ _ _ _ _ _ blkd]; rfl
    have k2 : w2.cell? ⟨D, 2, none⟩ = some (.slice (some ⟨zg, 0, none⟩) 2 zc) := by rw [cell_of_row _ _ _ _ _ _ e1]; rfl
    have k3 : w2.cell? ⟨zg, 0, none⟩ = some (.int .i64 (x : Int)) := by rw [World.ownsRow.cellAt e5 0 (by simp)]; rfl
    have k4 : w2.cell? ⟨zg, 1, none⟩ = some (.int .i64 (y : Int)) := by rw [World.ownsRow.cellAt e5 1 (by simp)]; rfl
    have HW2 : Hid (w2 = w1.alloc (.cells #[.pointer (some ⟨D, 0, none⟩)] 106)) := hw2
    have HDB : Aside (db = w1.heap.size) := hdb
    have HX : Aside (M.hat C H s = (x : Int)) := hx
    have HY : Aside (M.hat C H t = (y : Int)) := hy
    have HBD : Aside (w2.heap[db]? = some (.cells #[.pointer (some ⟨D, 0, none⟩)] 106 (0, 0))) := blkd
    have hb2w : Below w.heap.size w w2 := hbw.trans (b2.mono hbw.size)
    have r3 : w2.heap[R]? = some (.cells #[.slice none 0 0, .slice none 0 0] 35 (0, 0)) := (b2.block R (by omega)).trans r2
    have HZ : Aside (M.openE C H [s, t] = 0) := hz
    have HDC : Aside (M.dchk C = 0) := hlen.1
    clear hw2 hdb hx hy blkd e1 e5 hD hDm b2 r2 hz hr0 hlen hat hbt hzs hzt
    go_wp2_with fail
    rw [← HDB.out, ← HW2.out]
    have hdl : db < w2.heap.size := by omega
    have hzl : zg < w2.heap.size := World.block_lt_of_cell? w2 ⟨zg, 0, none⟩ k3
    have hDl2 : D < w2.heap.size := HD2.out.lt
    go_region_held3 (fun V => V.cell? ⟨db, 0, none⟩ = some (.pointer (some ⟨D, 0, none⟩)) ∧ V.cell? ⟨D, 2, none⟩ = some (.slice (some ⟨zg, 0, none⟩) 2 zc) ∧ V.cell? ⟨zg, 0, none⟩ = some (.int .i64 (x : Int)) ∧ V.cell? ⟨zg, 1, none⟩ = some (.int .i64 (y : Int))) (first | exact ⟨k0, k2, k3, k4⟩ | go_keep) (fail)
    generalize hVe : ((w2.alloc (.cells #[.int .i64 (x : Int)] 3)).alloc (.cells #[.int .i64 (y : Int)] 3)).drew = V
    generalize hbb : db + 1 + 1 = bb
    generalize hab : db + 1 = ab
    have FV : Bx w2 V ab bb (x : Int) (y : Int) := by rw [← hVe, ← hab, ← hbb, ← hs2]; exact (Bx.one _ _ _)
    clear hVe hab hbb
    rotate_left
    generalize hVe : ((w2.alloc (.cells #[.int .i64 (y : Int)] 3)).alloc (.cells #[.int .i64 (x : Int)] 3)).drew = V
    generalize hab : db + 1 + 1 = ab
    generalize hbb : db + 1 = bb
    have FV : Bx w2 V ab bb (x : Int) (y : Int) := by rw [← hVe, ← hab, ← hbb, ← hs2]; exact (Bx.one _ _ _).swap
    clear hVe hab hbb
    rotate_left
    all_goals
      have hsV := FV.bel.size
      have kdb : V.cell? ⟨db, 0, none⟩ = some (.pointer (some ⟨D, 0, none⟩)) := (FV.bel.cell (p := ⟨db, 0, none⟩) (by show db < _; omega)).trans k0
      have kab : V.cell? ⟨ab, 0, none⟩ = some (.int .i64 (x : Int)) := by rw [cell_of_row _ _ _ _ _ _ FV.a]; rfl
      have kbb : V.cell? ⟨bb, 0, none⟩ = some (.int .i64 (y : Int)) := by rw [cell_of_row _ _ _ _ _ _ FV.b]; rfl
      have DV : DeskAt V W.heap.size D C H [(x : Int), (y : Int)] := HD2.out.later FV.bel
      obtain ⟨go, hgo⟩ : ∃ go, go = (M.above C y).getD x false := ⟨_, rfl⟩
      have KA := isAbove_any D W.heap.size C H [(x : Int), (y : Int)] x y V DV HDC.out hxl hyl
      rw [← hgo] at KA
      have HKA : Hid (Calls Tryz.prog 83 #[.pointer (some ⟨D, 0, none⟩), .int .i64 x, .int .i64 y] V fun e w' => e = .returned (.bool go) ∧ Below V.heap.size V w') := KA
      have HGO : Aside (go = (M.above C y).getD x false) := hgo
      have HDV : Aside (DeskAt V W.heap.size D C H [(x : Int), (y : Int)]) := DV
      have HFV : Aside (Bx w2 V ab bb (x : Int) (y : Int)) := FV
      have hdV : db < V.heap.size := by omega
      have haV : ab < V.heap.size := (Array.getElem?_eq_some_iff.1 FV.a).1
      have hbV : bb < V.heap.size := (Array.getElem?_eq_some_iff.1 FV.b).1
      have hDV : D < V.heap.size := by omega
      have hb2v : Below w.heap.size w V := hb2w.trans (FV.bel.mono hb2w.size)
      have rV : V.heap[R]? = some (.cells #[.slice none 0 0, .slice none 0 0] 35 (0, 0)) := (FV.bel.block R (by omega)).trans r3
      have dV : V.heap[db]? = some (.cells #[.pointer (some ⟨D, 0, none⟩)] 106 (0, 0)) := (FV.bel.block db (by omega)).trans HBD.out
      clear KA hgo DV FV k0 k2 k3 k4
      go_wp2_with fail
      refine HKA.out.mono ?_
      rintro e w3 ⟨rfl, b3⟩
      obtain ⟨gb, hgb⟩ : ∃ gb, gb = w3.heap.size := ⟨_, rfl⟩
      obtain ⟨w4, hw4⟩ : ∃ w4, w4 = w3.alloc (.cells #[.bool go] 4) := ⟨_, rfl⟩
      have b4 : Below w3.heap.size w3 w4 := by rw [hw4]; exact (Below.refl _ _).alloc (Nat.le_refl _) _
      obtain ⟨w5, hw5⟩ : ∃ w5, w5 = w4.alloc (.cells #[.int .i64 9, .func (.func 84) #[] #[.pointer (some ⟨db, 0, none⟩), .pointer (some ⟨bb, 0, none⟩), .pointer (some ⟨ab, 0, none⟩)], .int .i64 2, .func (.func 85) #[] #[.pointer (some ⟨gb, 0, none⟩), .pointer (some ⟨db, 0, none⟩)]] 113) := ⟨_, rfl⟩
      have b5 : Below w4.heap.size w4 w5 := by rw [hw5]; exact (Below.refl _ _).alloc (Nat.le_refl _) _
      have hs3 := b3.size
      have hs4 : w4.heap.size = gb + 1 := by rw [hw4, hgb]; simp
      have hs5 : w5.heap.size = gb + 1 + 1 := by rw [hw5]; simp [hs4]
      have b35 : Below w3.heap.size w3 w5 := dbelow2 b4 b5
      have bV5 : Below V.heap.size V w5 := dbelow2 b3 b35
      have blkg : w5.heap[gb]? = some (.cells #[.bool go] 4 (0, 0)) := by
        rw [hw5, Below.heap_alloc _ _ _ (by omega), hw4, hgb]; exact heap_alloc_new _ _
      have D5 : DeskAt w5 W.heap.size D C H [(x : Int), (y : Int)] := HDV.out.later bV5
      have d5 : w5.heap[db]? = some (.cells #[.pointer (some ⟨D, 0, none⟩)] 106 (0, 0)) := (bV5.block db (by omega)).trans dV
      have a5 : w5.heap[ab]? = some (.cells #[.int .i64 (x : Int)] 3 (0, 0)) := (bV5.block ab (by omega)).trans HFV.out.a
      have bb5 : w5.heap[bb]? = some (.cells #[.int .i64 (y : Int)] 3 (0, 0)) := (bV5.block bb (by omega)).trans HFV.out.b
      have KF := firstOf_any (gb + 1) 2 [⟨9, 84, [.pointer (some ⟨db, 0, none⟩), .pointer (some ⟨bb, 0, none⟩), .pointer (some ⟨ab, 0, none⟩)], (M.above C x).getD y false⟩, ⟨2, 85, [.pointer (some ⟨gb, 0, none⟩), .pointer (some ⟨db, 0, none⟩)], !go && decide (14 ≤ C.length)⟩] w5 rfl (by omega) (by omega)
        (fun i hi => by
          rw [hw5, ← hs4]
          match i, hi with
          | 0, _ => constructor <;> simp [go_sem]
          | 1, _ => constructor <;> simp [go_sem])
        (fun b hb => by
          simp only [List.mem_cons, List.not_mem_nil, or_false] at hb
          rcases hb with rfl | rfl
          · exact ⟨enters_of Tryz.func84 (by kernel_rfl) rfl, fun V' hV' => wmerge1_any db bb ab D W.heap.size C H [(x : Int), (y : Int)] x y V' (by rw [cell_of_row _ _ _ _ _ _ ((hV'.block db (by omega)).trans d5)]; rfl) (by rw [cell_of_row _ _ _ _ _ _ ((hV'.block bb (by omega)).trans bb5)]; rfl) (by rw [cell_of_row _ _ _ _ _ _ ((hV'.block ab (by omega)).trans a5)]; rfl) (D5.later hV') HDC.out hxl hyl⟩
          · refine ⟨enters_of Tryz.func85 (by kernel_rfl) rfl, fun V' hV' => ?_⟩
            obtain ⟨x', y', z', e1, _, e3, _⟩ := D5.later hV'
            obtain ⟨xa, xc, rfl, _⟩ := e3.cm
            exact wmerge2_any gb db D C.length xc go xa V' (by rw [cell_of_row _ _ _ _ _ _ ((hV'.block gb (by omega)).trans blkg)]; rfl) (by rw [cell_of_row _ _ _ _ _ _ ((hV'.block db (by omega)).trans d5)]; rfl) (by rw [cell_of_row _ _ _ _ _ _ e1]; rfl))
      obtain ⟨c, hc⟩ : ∃ c, c = firstE [⟨9, 84, [.pointer (some ⟨db, 0, none⟩), .pointer (some ⟨bb, 0, none⟩), .pointer (some ⟨ab, 0, none⟩)], (M.above C x).getD y false⟩, ⟨2, 85, [.pointer (some ⟨gb, 0, none⟩), .pointer (some ⟨db, 0, none⟩)], !go && decide (14 ≤ C.length)⟩] := ⟨_, rfl⟩
      rw [← hc] at KF
      have HKF : Hid (Calls Tryz.prog 68 #[.slice (some ⟨gb + 1, 0, none⟩) 2 2] w5 fun e w' => e = .returned (.int .i64 c) ∧ Below w5.heap.size w5 w') := KF
      have HW5 : Hid (w5 = (w3.alloc (.cells #[.bool go] 4)).alloc (.cells #[.int .i64 9, .func (.func 84) #[] #[.pointer (some ⟨db, 0, none⟩), .pointer (some ⟨bb, 0, none⟩), .pointer (some ⟨ab, 0, none⟩)], .int .i64 2, .func (.func 85) #[] #[.pointer (some ⟨gb, 0, none⟩), .pointer (some ⟨db, 0, none⟩)]] 113)) := by rw [← hw4]; exact hw5
      have HGB : Aside (gb = w3.heap.size) := hgb
      have HJ := M.join_first HGO.out hc
      obtain ⟨jE, jK⟩ := M.joinE_at HZ.out HX.out HY.out
      rw [← jE, ← jK] at HJ
      have HJA : Aside (_) := HJ
      have HD5 : Aside (DeskAt w5 W.heap.size D C H [(x : Int), (y : Int)]) := D5
      have hb5w : Below w.heap.size w w5 := hb2v.trans (bV5.mono hb2v.size)
      have r5 : w5.heap[R]? = some (.cells #[.slice none 0 0, .slice none 0 0] 35 (0, 0)) := (bV5.block R (by omega)).trans rV
      have HR5 : Aside (w5.heap[R]? = some (.cells #[.slice none 0 0, .slice none 0 0] 35 (0, 0))) := r5
      have Hd5 : Aside (w5.heap[db]? = some (.cells #[.pointer (some ⟨D, 0, none⟩)] 106 (0, 0))) := d5
      have Ha5 : Aside (w5.heap[ab]? = some (.cells #[.int .i64 (x : Int)] 3 (0, 0))) := a5
      have Hb5 : Aside (w5.heap[bb]? = some (.cells #[.int .i64 (y : Int)] 3 (0, 0))) := bb5
      have Hg5 : Aside (w5.heap[gb]? = some (.cells #[.bool go] 4 (0, 0))) := blkg
      have hl5 : R + 2 < w5.heap.size ∧ D < w5.heap.size ∧ db < w5.heap.size ∧ ab < w5.heap.size ∧ bb < w5.heap.size ∧ gb < w5.heap.size ∧ W.heap.size ≤ w5.heap.size := by omega
      clear KF hw4 hw5 D5 d5 a5 bb5 blkg hc jE jK HJ r5 rV dV b35 hgb b4 b5 HKA hs3 hs4 hs5
      go_wp2_with fail
      rw [← HGB.out, ← HW5.out]
      refine HKF.out.mono ?_
      rintro e w6 ⟨rfl, b6⟩
      have hs6 := b6.size
      have k6 : w6.cell? ⟨gb, 0, none⟩ = some (.bool go) := by rw [cell_of_row _ _ _ _ _ _ ((b6.block gb (by omega)).trans Hg5.out)]; rfl
      have kd6 : w6.cell? ⟨db, 0, none⟩ = some (.pointer (some ⟨D, 0, none⟩)) := by rw [cell_of_row _ _ _ _ _ _ ((b6.block db (by omega)).trans Hd5.out)]; rfl
      have ka6 : w6.cell? ⟨ab, 0, none⟩ = some (.int .i64 (x : Int)) := by rw [cell_of_row _ _ _ _ _ _ ((b6.block ab (by omega)).trans Ha5.out)]; rfl
      have kb6 : w6.cell? ⟨bb, 0, none⟩ = some (.int .i64 (y : Int)) := by rw [cell_of_row _ _ _ _ _ _ ((b6.block bb (by omega)).trans Hb5.out)]; rfl
      have b6w : Below w.heap.size w w6 := hb5w.trans (b6.mono hb5w.size)
      have r6 : w6.heap[R]? = some (.cells #[.slice none 0 0, .slice none 0 0] 35 (0, 0)) := (b6.block R (by omega)).trans HR5.out
      by_cases hc0 : c = 0
      · have hne : (c != 0) = false := by simp [hc0]
        have D6 : DeskAt w6 W.heap.size D C H [(x : Int), (y : Int)] := HD5.out.later b6
        have HWw : Hid (w.heap.size ≤ W.heap.size) := hb.size
        have d6 : w6.heap[db]? = some (.cells #[.pointer (some ⟨D, 0, none⟩)] 106 (0, 0)) := (b6.block db (by omega)).trans Hd5.out
        cases go with
        | true =>
          obtain ⟨hE, hK⟩ := HJA.out.2.1 hc0 rfl
          have E0 : Aside (M.joinE C H s t = 0) := hE
          have EC : Aside (M.joinC C H s t = C ∧ M.joinH C H s t = M.mv H s (y : Int) ∧ M.joinK C H s t = []) := by
            have hg := HGO.out
            refine ⟨?_, ?_, hK⟩
            · unfold M.joinC; rw [hE, if_neg (by simp), HX.out, HY.out, if_pos (by exact hg.symm)]
            · unfold M.joinH; rw [hE, if_neg (by simp), HX.out, HY.out, if_pos (by exact hg.symm)]
          have HMv : Hid (Calls Tryz.prog 86 #[.pointer (some ⟨D, 0, none⟩), .string s, .int .i64 (y : Int)] w6 fun e w' => (∃ v, e = .returned v) ∧ DeskAt w' W.heap.size D C (M.mv H s (y : Int)) [(x : Int), (y : Int)] ∧ Below W.heap.size w6 w' ∧ Kt w6 w') := move_any D W.heap.size C H [(x : Int), (y : Int)] s (y : Int) w6 D6 (by omega) hplc
          have HR6 : Hid (w6.heap[R]? = some (.cells #[.slice none 0 0, .slice none 0 0] 35 (0, 0))) := r6
          have HD6 : Hid (w6.heap[db]? = some (.cells #[.pointer (some ⟨D, 0, none⟩)] 106 (0, 0))) := d6
          clear HKF hE hK HJA r6 d6 D6 hc0
          go_wp2_with fail
          refine HMv.out.mono ?_
          rintro e w8 ⟨⟨v8, rfl⟩, hd8, hb8, hk8⟩
          have w8b : Below w.heap.size w w8 := b6w.trans (hb8.mono HWw.out)
          have w8r : w8.heap[R]? = some (.cells #[.slice none 0 0, .slice none 0 0] 35 (0, 0)) := (hb8.block R (by omega)).trans HR6.out
          have d8 : w8.heap[db]? = some (.cells #[.pointer (some ⟨D, 0, none⟩)] 106 (0, 0)) := hk8 db _ _ (by decide) (by decide) (by decide) HD6.out
          have m0 : w8.cell? ⟨db, 0, none⟩ = some (.pointer (some ⟨D, 0, none⟩)) := by rw [cell_of_row _ _ _ _ _ _ d8]; rfl
          obtain ⟨x8, y8, z8, e8, _, o8, h8, _⟩ := hd8
          obtain ⟨xa8, xc8, rfl, _⟩ := o8.cm
          obtain ⟨ya8, yc8, rfl, _⟩ := h8.hs
          generalize hln : (C).length = ln at *
          generalize hlh : (M.mv H s (y : Int)).length = lh at *
          have m1 : w8.cell? ⟨D, 0, none⟩ = some (.slice xa8 ln xc8) := by rw [cell_of_row _ _ _ _ _ _ e8]; rfl
          have m2 : w8.cell? ⟨D, 1, none⟩ = some (.slice ya8 lh yc8) := by rw [cell_of_row _ _ _ _ _ _ e8]; rfl
          have HRO : Aside (RepoOwn ((w8.setCell ⟨R, 0, none⟩ (.slice xa8 ln xc8)).setCell ⟨R, 1, none⟩ (.slice ya8 lh yc8)) w.heap.size (.agg #[.slice xa8 ln xc8, .slice ya8 lh yc8]) (M.joinC C H s t) (M.joinH C H s t)) := by unfold Aside; rw [EC.out.1, EC.out.2.1]; exact (repoOwn_set w8r o8 h8).lower HWw.out
          obtain ⟨g1, g2, g3⟩ := res_set w8r (.slice xa8 ln xc8) (.slice ya8 lh yc8)
          obtain ⟨X, hX⟩ : ∃ X, X = (w8.setCell ⟨R, 0, none⟩ (.slice xa8 ln xc8)).setCell ⟨R, 1, none⟩ (.slice ya8 lh yc8) := ⟨_, rfl⟩
          rw [← hX] at g1 HRO
          have bX : Below w.heap.size w X := by rw [hX]; exact (w8b.setCell (p := ⟨R, 0, none⟩) (by show _ ≤ R; have := HPR.out; omega) _).setCell (p := ⟨R, 1, none⟩) (by show _ ≤ R; have := HPR.out; omega) _
          have HX9 : Hid (X = (w8.setCell ⟨R, 0, none⟩ (.slice xa8 ln xc8)).setCell ⟨R, 1, none⟩ (.slice ya8 lh yc8)) := hX
          have HX0 : Aside (X.cell? ⟨R, 0, none⟩ = some (.slice xa8 ln xc8)) := by unfold Aside; rw [cell_of_row _ _ _ _ _ _ g1]; rfl
          have HX1 : Aside (X.cell? ⟨R, 1, none⟩ = some (.slice ya8 lh yc8)) := by unfold Aside; rw [cell_of_row _ _ _ _ _ _ g1]; rfl
          have x0 : w8.cell? ⟨R, 0, none⟩ = some (.slice none 0 0) := by rw [cell_of_row _ _ _ _ _ _ w8r]; rfl
          have x1 : w8.cell? ⟨R, 1, none⟩ = some (.slice none 0 0) := by rw [cell_of_row _ _ _ _ _ _ w8r]; rfl
          have f0 : w8.frozen? ⟨R, 0, none⟩ = false := frozen_of_row _ _ _ _ _ w8r
          have f1 : w8.frozen? ⟨R, 1, none⟩ = false := frozen_of_row _ _ _ _ _ w8r
          clear g1 g2 g3 hX w8r e8 o8 h8 d8 hb8 hk8 hln hlh k6 kd6 ka6 kb6
          go_wp2
          rw [← HX9.out]
          have y0 := HX0.out
          have y1 := HX1.out
          refine bodyPost_ret (v := .tuple #[.agg #[.slice xa8 ln xc8, .slice ya8 lh yc8], .slice none 0 0, .int .i64 0]) (by simp [results, Tryz.results41, go_sem, y0, y1]) rfl ?_
          exact ⟨_, none, 0, 0, ret_three E0.out.symm, HRO.out, by rw [EC.out.2.2]; exact ⟨rfl, Or.inl rfl⟩, Nat.le_refl _, by simp [maxLen], bX⟩
        | false =>
          obtain ⟨hC13, hE, hK⟩ := HJA.out.2.2 hc0 rfl
          obtain ⟨BR, hBR⟩ : ∃ BR, BR = M.baseR C x y := ⟨_, rfl⟩
          obtain ⟨RA, hRA⟩ : ∃ RA, RA = (C.getD x ([], [])).1 := ⟨_, rfl⟩
          obtain ⟨RB, hRB⟩ : ∃ RB, RB = (C.getD y ([], [])).1 := ⟨_, rfl⟩
          rw [← hBR, ← hRA, ← hRB] at hE hK
          have HE : Aside (M.joinE C H s t = if M.mergeE BR RA RB ≠ 0 then M.mergeE BR RA RB else if (M.mergeK BR RA RB).length ≠ 0 then 7 else 0) := hE
          have HKK : Aside (M.joinK C H s t = if M.mergeE BR RA RB ≠ 0 then [] else M.mergeK BR RA RB) := hK
          have HCH : Aside (M.joinE C H s t = 0 → M.joinC C H s t = C ++ [(M.mergeV BR RA RB, [min (x : Int) (y : Int), max (x : Int) (y : Int)])] ∧ M.joinH C H s t = M.mv H s C.length) := by
            intro h0
            have hg := HGO.out
            refine ⟨?_, ?_⟩
            · unfold M.joinC; rw [h0, if_neg (by simp), HX.out, HY.out, if_neg (by intro h; exact absurd (hg.trans h) (by simp)), hBR, hRA, hRB]; rfl
            · unfold M.joinH; rw [h0, if_neg (by simp), HX.out, HY.out, if_neg (by intro h; exact absurd (hg.trans h) (by simp))]
          have HNO : Aside (M.joinE C H s t ≠ 0 → M.joinC C H s t = [] ∧ M.joinH C H s t = []) := fun h => ⟨by unfold M.joinC; rw [if_pos h], by unfold M.joinH; rw [if_pos h]⟩
          have HBa : Hid (∀ V, Below w6.heap.size w6 V → Calls Tryz.prog 88 #[.pointer (some ⟨D, 0, none⟩), .int .i64 (x : Int), .int .i64 (y : Int)] V fun e w' => ∃ a cap, e = .returned (.slice a BR.length cap) ∧ Rd w' a BR.length BR ∧ BR.length ≤ 9223372036854775807 ∧ Below V.heap.size V w') := fun V hV => by rw [hBR]; exact dbase_any D W.heap.size C H [(x : Int), (y : Int)] x y V (D6.later hV) HDC.out hxl hyl
          have HRa : Hid (∀ V, Below w6.heap.size w6 V → Calls Tryz.prog 74 #[.pointer (some ⟨D, 0, none⟩), .int .i64 (x : Int)] V fun e w' => ∃ a cap, e = .returned (.slice a RA.length cap) ∧ Own w' W.heap.size (.slice a RA.length cap) RA ∧ w' = V) := fun V hV => by rw [hRA]; exact drows_any D W.heap.size C H [(x : Int), (y : Int)] x V (D6.later hV) hxl
          have HRb : Hid (∀ V, Below w6.heap.size w6 V → Calls Tryz.prog 74 #[.pointer (some ⟨D, 0, none⟩), .int .i64 (y : Int)] V fun e w' => ∃ a cap, e = .returned (.slice a RB.length cap) ∧ Own w' W.heap.size (.slice a RB.length cap) RB ∧ w' = V) := fun V hV => by rw [hRB]; exact drows_any D W.heap.size C H [(x : Int), (y : Int)] y V (D6.later hV) hyl
          have HS : Hid (∀ V, Below w6.heap.size w6 V → (V.cell? ⟨db, 0, none⟩ = some (.pointer (some ⟨D, 0, none⟩)) ∧ V.cell? ⟨ab, 0, none⟩ = some (.int .i64 (x : Int)) ∧ V.cell? ⟨bb, 0, none⟩ = some (.int .i64 (y : Int)))) := fun V hV => ⟨(hV.cell (p := ⟨db, 0, none⟩) (by show db < _; omega)).trans kd6, (hV.cell (p := ⟨ab, 0, none⟩) (by show ab < _; omega)).trans ka6, (hV.cell (p := ⟨bb, 0, none⟩) (by show bb < _; omega)).trans kb6⟩
          have HR6 : Hid (w6.heap[R]? = some (.cells #[.slice none 0 0, .slice none 0 0] 35 (0, 0))) := r6
          have HDk6 : Hid (DeskAt w6 W.heap.size D C H [(x : Int), (y : Int)]) := D6
          have HD6 : Hid (w6.heap[db]? = some (.cells #[.pointer (some ⟨D, 0, none⟩)] 106 (0, 0))) := d6
          clear HKF hE hK HJA r6 d6 D6 hc0 hBR hRA hRB
          go_wp2_with fail
          go_region_held3 (fun V => V.cell? ⟨db, 0, none⟩ = some (.pointer (some ⟨D, 0, none⟩)) ∧ V.cell? ⟨ab, 0, none⟩ = some (.int .i64 (x : Int)) ∧ V.cell? ⟨bb, 0, none⟩ = some (.int .i64 (y : Int))) (first | exact hAnew2.out | exact hAnew.out | exact ⟨kd6, ka6, kb6⟩ | go_keep) (first | (go_at_call 88; refine (HBa.out _ ((Below.refl _ _).drew)).mono ?_; rintro e w7 ⟨ba, bc, rfl, hrb, hbl, hb7⟩; have B7 : Hid (Below w6.heap.size w6 w7) := ((Below.refl _ _).drew).trans hb7; have hAnew : Hid (w7.cell? ⟨db, 0, none⟩ = some (.pointer (some ⟨D, 0, none⟩)) ∧ w7.cell? ⟨ab, 0, none⟩ = some (.int .i64 (x : Int)) ∧ w7.cell? ⟨bb, 0, none⟩ = some (.int .i64 (y : Int))) := HS.out w7 B7.out; obtain ⟨j0, j1, j2⟩ := hAnew.out; have HRd1 : Hid (Rd w7 ba BR.length BR ∧ BR.length ≤ 9223372036854775807) := ⟨hrb, hbl⟩; have hs7 := B7.out.size; clear hrb hbl hb7) | (go_at_call 74; have hh8 := HO8; clear hh8; refine (HRb.out _ B7.out).mono ?_; rintro e w9 ⟨rb, rcb, rfl, ho9, hw9⟩; subst hw9; have HO9 : Hid (Own w9 W.heap.size (.slice rb RB.length rcb) RB) := ho9; clear ho9) | (go_at_call 74; refine (HRa.out _ B7.out).mono ?_; rintro e w8 ⟨ra, rcp, rfl, ho8, hw8⟩; subst hw8; have HO8 : Hid (Own w8 W.heap.size (.slice ra RA.length rcp) RA) := ho8; clear ho8) | (go_at_call 87; obtain ⟨ra5, rc5, he5, hr5, hl5', hm5, hn5⟩ := HO8.out.rd; obtain ⟨rfl, rfl⟩ : ra = ra5 ∧ rcp = rc5 := (by simpa using he5); obtain ⟨rb5, rcb5, he6, hr6, hl6', hm6, hn6⟩ := HO9.out.rd; obtain ⟨rfl, rfl⟩ : rb = rb5 ∧ rcb = rcb5 := (by simpa using he6); refine (merge_own _ _ _ _ _ _ _ _ _ BR RA RB _ HRd1.out.1 hr5 hr6 HRd1.out.2 (by unfold maxLen at hm5; omega) (by unfold maxLen at hm6; omega) hn5).mono ?_; rintro e w10 ⟨ma, mn, mc, kb, kn, kc, rfl, hr7, hn7, hc7, hz7, hri7, hk7, hkc7, hb10⟩; have B10 : Hid (Below w6.heap.size w6 w10) := B7.out.trans (hb10.mono B7.out.size); have hAnew2 : Hid (w10.cell? ⟨db, 0, none⟩ = some (.pointer (some ⟨D, 0, none⟩)) ∧ w10.cell? ⟨ab, 0, none⟩ = some (.int .i64 (x : Int)) ∧ w10.cell? ⟨bb, 0, none⟩ = some (.int .i64 (y : Int))) := HS.out w10 B10.out; obtain ⟨i0, i1, i2⟩ := hAnew2.out; have HO10 : Hid (Own w10 W.heap.size (.slice ma mn mc) (M.mergeV BR RA RB)) := ownsRow_lower hz7.2 (by omega); have HRI : Hid (Ri w10 kb kn (M.mergeK BR RA RB) ∧ kn ≤ kc ∧ kc ≤ maxLen) := ⟨hri7, hk7, hkc7⟩; clear hr5 hl5' hm5 hn5 hr6 hl6' hm6 hn6 he5 he6 hr7 hn7 hc7 hz7 hri7 hk7 hkc7 hb10))
          obtain ⟨me, hme⟩ : ∃ me, me = M.mergeE BR RA RB := ⟨_, rfl⟩
          rw [← hme] at HE HKK ⊢
          have b10w : Below w.heap.size w w10 := b6w.trans (B10.out.mono b6w.size)
          have r10 : w10.heap[R]? = some (.cells #[.slice none 0 0, .slice none 0 0] 35 (0, 0)) := (B10.out.block R (by omega)).trans HR6.out
          by_cases hm0 : me = 0
          · have hne6 : (me != 0) = false := by simp [hm0]
            have hkl : (M.mergeK BR RA RB).length = kn := HRI.out.1.1
            by_cases hk0 : kn = 0
            · have E0 : Aside (M.joinE C H s t = 0) := by unfold Aside; rw [HE.out, if_neg (by rw [hm0]; simp), if_neg (by rw [hkl, hk0]; simp)]
              have EC : Aside (M.joinC C H s t = C ++ [(M.mergeV BR RA RB, [min (x : Int) (y : Int), max (x : Int) (y : Int)])] ∧ M.joinH C H s t = M.mv H s C.length ∧ M.joinK C H s t = []) := ⟨(HCH.out E0.out).1, (HCH.out E0.out).2, by rw [HKK.out, if_neg (by rw [hm0]; simp)]; exact List.eq_nil_of_length_eq_zero (by rw [hkl, hk0])⟩
              subst hk0
              have hmv : (M.mergeV BR RA RB).length ≤ 40 := M.mergeV_len (by rw [← hme]; exact hm0)
              obtain ⟨W7, hW7⟩ : ∃ W7, W7 = w10.alloc (.cells #[.int .i64 (min (x : Int) (y : Int)), .int .i64 (max (x : Int) (y : Int))] 3) := ⟨_, rfl⟩
              have b67 : Below w10.heap.size w10 W7 := by rw [hW7]; exact (Below.refl _ _).alloc (Nat.le_refl _) _
              have D7 : DeskAt W7 W.heap.size D C H [(x : Int), (y : Int)] := (HDk6.out.later B10.out).later b67
              have hs10 := B10.out.size
              have s67 := b67.size
              have oc : OwnCo W7 W.heap.size (.slice ma mn mc, .slice (some ⟨w10.heap.size, 0, none⟩) 2 2) (M.mergeV BR RA RB, [min (x : Int) (y : Int), max (x : Int) (y : Int)]) := by
                refine ⟨ownsRow_later HO10.out b67, ?_, by show (M.mergeV BR RA RB).length ≤ _; omega, by show 2 ≤ _; omega⟩
                rw [hW7]
                exact ownI_two w10 W.heap.size _ _ (by omega)
              have KC := commit_any D W.heap.size C H [(x : Int), (y : Int)] s ma (some ⟨w10.heap.size, 0, none⟩) mn mc 2 2 (M.mergeV BR RA RB, [min (x : Int) (y : Int), max (x : Int) (y : Int)]) W7 D7 (by omega) oc hplc (by omega)
              have HCm : Hid (Calls Tryz.prog 75 #[.pointer (some ⟨D, 0, none⟩), .string s, .slice ma mn mc, .slice (some ⟨w10.heap.size, 0, none⟩) 2 2] W7 fun e w' => (∃ v, e = .returned v) ∧ DeskAt w' W.heap.size D (C ++ [(M.mergeV BR RA RB, [min (x : Int) (y : Int), max (x : Int) (y : Int)])]) (M.mv H s C.length) [(x : Int), (y : Int)] ∧ Below W.heap.size W7 w' ∧ Kt W7 w') := KC
              have HW7 : Hid (W7 = w10.alloc (.cells #[.int .i64 (min (x : Int) (y : Int)), .int .i64 (max (x : Int) (y : Int))] 3)) := hW7
              have HB7 : Hid (Below w.heap.size w W7) := b10w.trans (b67.mono b10w.size)
              have HD7 : Hid (W7.heap[db]? = some (.cells #[.pointer (some ⟨D, 0, none⟩)] 106 (0, 0))) := (b67.block db (by omega)).trans ((B10.out.block db (by omega)).trans HD6.out)
              have HR7 : Hid (W7.heap[R]? = some (.cells #[.slice none 0 0, .slice none 0 0] 35 (0, 0))) := (b67.block R (by omega)).trans r10
              clear hm0 hme hkl hmv hW7 D7 oc KC b67 r10 hs10 s67
              go_wp2_with fail
              rw [← HW7.out]
              refine HCm.out.mono ?_
              rintro e w8 ⟨⟨v8, rfl⟩, hd8, hb8, hk8⟩
              have w8b : Below w.heap.size w w8 := HB7.out.trans (hb8.mono HWw.out)
              have w8r : w8.heap[R]? = some (.cells #[.slice none 0 0, .slice none 0 0] 35 (0, 0)) := (hb8.block R (by omega)).trans HR7.out
              have d8 : w8.heap[db]? = some (.cells #[.pointer (some ⟨D, 0, none⟩)] 106 (0, 0)) := hk8 db _ _ (by decide) (by decide) (by decide) HD7.out
              have m0 : w8.cell? ⟨db, 0, none⟩ = some (.pointer (some ⟨D, 0, none⟩)) := by rw [cell_of_row _ _ _ _ _ _ d8]; rfl
              obtain ⟨x8, y8, z8, e8, _, o8, h8, _⟩ := hd8
              obtain ⟨xa8, xc8, rfl, _⟩ := o8.cm
              obtain ⟨ya8, yc8, rfl, _⟩ := h8.hs
              generalize hln : (C ++ [(M.mergeV BR RA RB, [min (x : Int) (y : Int), max (x : Int) (y : Int)])]).length = ln at *
              generalize hlh : (M.mv H s C.length).length = lh at *
              have m1 : w8.cell? ⟨D, 0, none⟩ = some (.slice xa8 ln xc8) := by rw [cell_of_row _ _ _ _ _ _ e8]; rfl
              have m2 : w8.cell? ⟨D, 1, none⟩ = some (.slice ya8 lh yc8) := by rw [cell_of_row _ _ _ _ _ _ e8]; rfl
              have HRO : Aside (RepoOwn ((w8.setCell ⟨R, 0, none⟩ (.slice xa8 ln xc8)).setCell ⟨R, 1, none⟩ (.slice ya8 lh yc8)) w.heap.size (.agg #[.slice xa8 ln xc8, .slice ya8 lh yc8]) (M.joinC C H s t) (M.joinH C H s t)) := by unfold Aside; rw [EC.out.1, EC.out.2.1]; exact (repoOwn_set w8r o8 h8).lower HWw.out
              obtain ⟨g1, g2, g3⟩ := res_set w8r (.slice xa8 ln xc8) (.slice ya8 lh yc8)
              obtain ⟨X, hX⟩ : ∃ X, X = (w8.setCell ⟨R, 0, none⟩ (.slice xa8 ln xc8)).setCell ⟨R, 1, none⟩ (.slice ya8 lh yc8) := ⟨_, rfl⟩
              rw [← hX] at g1 HRO
              have bX : Below w.heap.size w X := by rw [hX]; exact (w8b.setCell (p := ⟨R, 0, none⟩) (by show _ ≤ R; have := HPR.out; omega) _).setCell (p := ⟨R, 1, none⟩) (by show _ ≤ R; have := HPR.out; omega) _
              have HX9 : Hid (X = (w8.setCell ⟨R, 0, none⟩ (.slice xa8 ln xc8)).setCell ⟨R, 1, none⟩ (.slice ya8 lh yc8)) := hX
              have HX0 : Aside (X.cell? ⟨R, 0, none⟩ = some (.slice xa8 ln xc8)) := by unfold Aside; rw [cell_of_row _ _ _ _ _ _ g1]; rfl
              have HX1 : Aside (X.cell? ⟨R, 1, none⟩ = some (.slice ya8 lh yc8)) := by unfold Aside; rw [cell_of_row _ _ _ _ _ _ g1]; rfl
              have x0 : w8.cell? ⟨R, 0, none⟩ = some (.slice none 0 0) := by rw [cell_of_row _ _ _ _ _ _ w8r]; rfl
              have x1 : w8.cell? ⟨R, 1, none⟩ = some (.slice none 0 0) := by rw [cell_of_row _ _ _ _ _ _ w8r]; rfl
              have f0 : w8.frozen? ⟨R, 0, none⟩ = false := frozen_of_row _ _ _ _ _ w8r
              have f1 : w8.frozen? ⟨R, 1, none⟩ = false := frozen_of_row _ _ _ _ _ w8r
              clear g1 g2 g3 hX w8r e8 o8 h8 d8 hb8 hk8 hln hlh k6 kd6 ka6 kb6 j0 j1 j2 i0 i1 i2 hAnew hAnew2
              go_wp2
              rw [← HX9.out]
              have y0 := HX0.out
              have y1 := HX1.out
              refine bodyPost_ret (v := .tuple #[.agg #[.slice xa8 ln xc8, .slice ya8 lh yc8], .slice none 0 0, .int .i64 0]) (by simp [results, Tryz.results41, go_sem, y0, y1]) rfl ?_
              exact ⟨_, none, 0, 0, ret_three E0.out.symm, HRO.out, by rw [EC.out.2.2]; exact ⟨rfl, Or.inl rfl⟩, Nat.le_refl _, by simp [maxLen], bX⟩
            · have hkp : (0 : Int) < (kn : Int) := by omega
              have E : Aside (M.joinE C H s t = 7) := by unfold Aside; rw [HE.out, if_neg (by rw [hm0]; simp), if_pos (by rw [hkl]; exact hk0)]
              have EC : Aside (M.joinC C H s t = [] ∧ M.joinH C H s t = [] ∧ M.joinK C H s t = M.mergeK BR RA RB) := ⟨(HNO.out (by rw [E.out]; simp)).1, (HNO.out (by rw [E.out]; simp)).2, by rw [HKK.out, if_neg (by rw [hm0]; simp)]⟩
              obtain ⟨g1, g2, g3⟩ := res_set r10 (.slice none 0 0) (.slice none 0 0)
              obtain ⟨X, hX⟩ : ∃ X, X = (w10.setCell ⟨R, 0, none⟩ (.slice none 0 0)).setCell ⟨R, 1, none⟩ (.slice none 0 0) := ⟨_, rfl⟩
              rw [← hX] at g1
              have bX : Below w.heap.size w X := by rw [hX]; exact (b10w.setCell (p := ⟨R, 0, none⟩) (by show _ ≤ R; have := HPR.out; omega) _).setCell (p := ⟨R, 1, none⟩) (by show _ ≤ R; have := HPR.out; omega) _
              have gX := g1
              have HX9 : Hid (X = (w10.setCell ⟨R, 0, none⟩ (.slice none 0 0)).setCell ⟨R, 1, none⟩ (.slice none 0 0)) := hX
              have HX0 : Aside (X.cell? ⟨R, 0, none⟩ = some (.slice none 0 0)) := by unfold Aside; rw [cell_of_row _ _ _ _ _ _ gX]; rfl
              have HX1 : Aside (X.cell? ⟨R, 1, none⟩ = some (.slice none 0 0)) := by unfold Aside; rw [cell_of_row _ _ _ _ _ _ gX]; rfl
              have x0 : w10.cell? ⟨R, 0, none⟩ = some (.slice none 0 0) := by rw [cell_of_row _ _ _ _ _ _ r10]; rfl
              have x1 : w10.cell? ⟨R, 1, none⟩ = some (.slice none 0 0) := by rw [cell_of_row _ _ _ _ _ _ r10]; rfl
              have f0 : w10.frozen? ⟨R, 0, none⟩ = false := frozen_of_row _ _ _ _ _ r10
              have f1 : w10.frozen? ⟨R, 1, none⟩ = false := frozen_of_row _ _ _ _ _ r10
              have HK : Aside (Ri X kb kn (M.mergeK BR RA RB)) := by unfold Aside; rw [hX]; exact HRI.out.1.elsewhere r10 _ _
              clear g1 g2 g3 hX gX r10 hm0 hme hkl hk0
              go_wp2
              rw [← HX9.out]
              have y0 := HX0.out
              have y1 := HX1.out
              refine bodyPost_ret (v := .tuple #[.agg #[.slice none 0 0, .slice none 0 0], .slice kb kn kc, .int .i64 7]) (by simp [results, Tryz.results41, go_sem, y0, y1]) rfl ?_
              refine ⟨_, _, _, _, ret_three E.out.symm, ?_, by rw [EC.out.2.2]; exact HK.out, HRI.out.2.1, HRI.out.2.2, bX⟩
              rw [EC.out.1, EC.out.2.1]; exact RepoOwn.none _ _
          · have hne6 : (me != 0) = true := by simp [hm0]
            have E : Aside (M.joinE C H s t = me) := by unfold Aside; rw [HE.out, if_pos hm0]
            have EC : Aside (M.joinC C H s t = [] ∧ M.joinH C H s t = [] ∧ M.joinK C H s t = []) := ⟨(HNO.out (by rw [E.out]; exact hm0)).1, (HNO.out (by rw [E.out]; exact hm0)).2, by rw [HKK.out, if_pos hm0]⟩
            obtain ⟨g1, g2, g3⟩ := res_set r10 (.slice none 0 0) (.slice none 0 0)
            obtain ⟨X, hX⟩ : ∃ X, X = (w10.setCell ⟨R, 0, none⟩ (.slice none 0 0)).setCell ⟨R, 1, none⟩ (.slice none 0 0) := ⟨_, rfl⟩
            rw [← hX] at g1
            have bX : Below w.heap.size w X := by rw [hX]; exact (b10w.setCell (p := ⟨R, 0, none⟩) (by show _ ≤ R; have := HPR.out; omega) _).setCell (p := ⟨R, 1, none⟩) (by show _ ≤ R; have := HPR.out; omega) _
            have gX := g1
            have HX9 : Hid (X = (w10.setCell ⟨R, 0, none⟩ (.slice none 0 0)).setCell ⟨R, 1, none⟩ (.slice none 0 0)) := hX
            have HX0 : Aside (X.cell? ⟨R, 0, none⟩ = some (.slice none 0 0)) := by unfold Aside; rw [cell_of_row _ _ _ _ _ _ gX]; rfl
            have HX1 : Aside (X.cell? ⟨R, 1, none⟩ = some (.slice none 0 0)) := by unfold Aside; rw [cell_of_row _ _ _ _ _ _ gX]; rfl
            have x0 : w10.cell? ⟨R, 0, none⟩ = some (.slice none 0 0) := by rw [cell_of_row _ _ _ _ _ _ r10]; rfl
            have x1 : w10.cell? ⟨R, 1, none⟩ = some (.slice none 0 0) := by rw [cell_of_row _ _ _ _ _ _ r10]; rfl
            have f0 : w10.frozen? ⟨R, 0, none⟩ = false := frozen_of_row _ _ _ _ _ r10
            have f1 : w10.frozen? ⟨R, 1, none⟩ = false := frozen_of_row _ _ _ _ _ r10
            clear g1 g2 g3 hX gX r10 hm0 hme
            go_wp2
            rw [← HX9.out]
            have y0 := HX0.out
            have y1 := HX1.out
            refine bodyPost_ret (v := .tuple #[.agg #[.slice none 0 0, .slice none 0 0], .slice none 0 0, .int .i64 me]) (by simp [results, Tryz.results41, go_sem, y0, y1]) rfl ?_
            refine ⟨_, none, 0, 0, ret_three E.out.symm, ?_, by rw [EC.out.2.2]; exact ⟨rfl, Or.inl rfl⟩, Nat.le_refl _, by simp [maxLen], bX⟩
            rw [EC.out.1, EC.out.2.1]; exact RepoOwn.none _ _
      · have hne : (c != 0) = true := by simp [hc0]
        obtain ⟨hE, hK⟩ := HJA.out.1 hc0
        have E : Aside (M.joinE C H s t = c) := hE
        have EC : Aside (M.joinC C H s t = [] ∧ M.joinH C H s t = [] ∧ M.joinK C H s t = []) := ⟨by unfold M.joinC; rw [E.out, if_pos hc0], by unfold M.joinH; rw [E.out, if_pos hc0], hK⟩
        obtain ⟨g1, g2, g3⟩ := res_set r6 (.slice none 0 0) (.slice none 0 0)
        obtain ⟨X, hX⟩ : ∃ X, X = (w6.setCell ⟨R, 0, none⟩ (.slice none 0 0)).setCell ⟨R, 1, none⟩ (.slice none 0 0) := ⟨_, rfl⟩
        rw [← hX] at g1
        have bX : Below w.heap.size w X := by rw [hX]; exact (b6w.setCell (p := ⟨R, 0, none⟩) (by show _ ≤ R; have := HPR.out; omega) _).setCell (p := ⟨R, 1, none⟩) (by show _ ≤ R; have := HPR.out; omega) _
        have gX := g1
        have HX9 : Hid (X = (w6.setCell ⟨R, 0, none⟩ (.slice none 0 0)).setCell ⟨R, 1, none⟩ (.slice none 0 0)) := hX
        have HX0 : Aside (X.cell? ⟨R, 0, none⟩ = some (.slice none 0 0)) := by unfold Aside; rw [cell_of_row _ _ _ _ _ _ gX]; rfl
        have HX1 : Aside (X.cell? ⟨R, 1, none⟩ = some (.slice none 0 0)) := by unfold Aside; rw [cell_of_row _ _ _ _ _ _ gX]; rfl
        have x0 : w6.cell? ⟨R, 0, none⟩ = some (.slice none 0 0) := by rw [cell_of_row _ _ _ _ _ _ r6]; rfl
        have x1 : w6.cell? ⟨R, 1, none⟩ = some (.slice none 0 0) := by rw [cell_of_row _ _ _ _ _ _ r6]; rfl
        have f0 : w6.frozen? ⟨R, 0, none⟩ = false := frozen_of_row _ _ _ _ _ r6
        have f1 : w6.frozen? ⟨R, 1, none⟩ = false := frozen_of_row _ _ _ _ _ r6
        clear g1 g2 g3 hX gX r6 hc0 HKF hE hK HJA
        go_wp2
        rw [← HX9.out]
        have y0 := HX0.out
        have y1 := HX1.out
        refine bodyPost_ret (v := .tuple #[.agg #[.slice none 0 0, .slice none 0 0], .slice none 0 0, .int .i64 c]) (by simp [results, Tryz.results41, go_sem, y0, y1]) rfl ?_
        refine ⟨_, none, 0, 0, ret_three E.out.symm, ?_, by rw [EC.out.2.2]; exact ⟨rfl, Or.inl rfl⟩, Nat.le_refl _, by simp [maxLen], bX⟩
        rw [EC.out.1, EC.out.2.1]; exact RepoOwn.none _ _
end Go.Proofs.YtcgpgflnihjpiagGreat
namespace Go.Proofs.YtcgpgflnihjpiagGreat
open Go.RowKit Go.Shelf
def layV (cur : Array Value) : Nat → List Value → Array Value
  | _, [] => cur
  | o, v :: r => layV (cur.setIfInBounds o v) (o + 1) r
theorem layV_size (cur : Array Value) (o : Nat) (vs : List Value) : (layV cur o vs).size = cur.size := by
  induction vs generalizing cur o with
  | nil => rfl
  | cons v r ih => rw [layV, ih]; simp
theorem layV_list (cur : Array Value) (o : Nat) (vs : List Value) (h : o + vs.length ≤ cur.size) : (layV cur o vs).toList = cur.toList.take o ++ vs ++ cur.toList.drop (o + vs.length) := by
  induction vs generalizing cur o with
  | nil => simp [layV]
  | cons v r ih =>
    simp only [List.length_cons] at h
    rw [layV, ih _ _ (by simp; omega), Array.toList_setIfInBounds]
    have hlt : o < cur.toList.length := by simp; omega
    apply List.ext_getElem?
    intro i
    simp only [List.length_cons]
    by_cases h1 : i < o
    · rw [List.getElem?_append_left (by simp; omega), List.getElem?_append_left (by simp; omega), List.getElem?_append_left (by simp; omega), List.getElem?_append_left (by simp; omega), List.getElem?_take_of_lt (by omega), List.getElem?_take_of_lt (by omega), List.getElem?_set_ne (by omega)]
    · by_cases h2 : i = o
      · subst h2
        rw [List.getElem?_append_left (by simp; omega), List.getElem?_append_left (by simp; omega), List.getElem?_take_of_lt (by omega), List.getElem?_set_self (by simp; omega), List.getElem?_append_left (by simp; omega), List.getElem?_append_right (by simp; omega)]
        simp [show min i cur.size = i by simp at hlt; omega]
      · simp only [List.getElem?_append, List.getElem?_take, List.getElem?_drop, List.length_take, List.length_append, List.length_set, List.length_cons, List.getElem?_set, Array.length_toList] at *
        repeat' split
        all_goals first | omega | skip
        all_goals first
          | (simp only [List.getElem?_cons]; rw [if_neg (by omega)]; congr 1; omega)
          | (congr 1; omega)
theorem heap_setCells (w : World) (g : Nat) (t : TypeId) (vs : List Value) (o : Nat) (cur : Array Value) (h : w.heap[g]? = some (.cells cur t (0, 0))) : (w.setCells g o vs).heap[g]? = some (.cells (layV cur o vs) t (0, 0)) := by
  induction vs generalizing w o cur with
  | nil => exact h
  | cons v r ih => rw [World.setCells, layV]; exact ih _ _ _ (heap_setCell_same _ _ _ _ _ _ h)
theorem grownBy_setCells (w : World) (g : Nat) (vs : List Value) (o : Nat) : w.grownBy (w.setCells g o vs) (some g) := by
  induction vs generalizing w o with
  | nil => exact World.grownBy.refl _ _
  | cons v r ih => rw [World.setCells]; exact (grownBy_set w ⟨g, o, none⟩ v).trans (ih _ _)
theorem OwnH.laid {w : World} {base g n cap : Nat} {H H' : List M.Hd} (h : OwnH w base (.slice (some ⟨g, 0, none⟩) n cap) H) (o : Nat) (vs : List Value) (n' : Nat) (hn' : n' = H'.length) (hcap : n' ≤ cap) (hfit : o + vs.length ≤ cap * 2)
    (e : ∀ cur : List Value, cur.length = cap * 2 → cur.take (H.length * 2) = encH H → (cur.take o ++ vs ++ cur.drop (o + vs.length)).take (H'.length * 2) = encH H') (hs : ∀ x ∈ H', x.1.size ≤ 9223372036854775807) :
    OwnH (w.setCells g o vs) base (.slice (some ⟨g, 0, none⟩) n' cap) H' := by
  obtain ⟨⟨hl, hor⟩, _⟩ := h
  rcases hor with ⟨ee, _⟩ | ⟨g', cap', cur, ee, hb, hh, hc, hm, hz, hx⟩
  · simp at ee
  · simp only [Value.slice.injEq, Option.some.injEq, Addr.mk.injEq] at ee
    obtain ⟨⟨rfl, _⟩, rfl, rfl⟩ := ee
    subst hn'
    refine ⟨⟨by simp [encH_length], Or.inr ⟨g, cap, layV cur o vs, rfl, hb, heap_setCells _ _ _ _ _ _ hh, hcap, hm, by rw [layV_size]; exact hz, ?_⟩⟩, hs⟩
    rw [layV_list _ _ _ (by rw [hz]; exact hfit)]
    exact e cur.toList (by simp [hz]) hx
theorem run_clear_head (w : World) (ty : TypeId) (b o c : Nat) (hc : ∀ j, j < 2 → (w.cell? ⟨b, o + j, none⟩).isSome = true) (hf : ∀ j, j < 2 → w.frozen? ⟨b, o + j, none⟩ = false) :
    (Builtin.clear_ #[33] ty #[.slice (some ⟨b, o, none⟩) 1 c]).run Tryz.prog w = .ok (.tuple #[]) (w.setCells b o [.string ⟨#[]⟩, .int .i64 0]) := by
  obtain ⟨i1, hi1, hy0, hy1, hy2⟩ := info_parts infoHead
  have hv : ∀ w, (zeroValue 58).run Tryz.prog w = .ok (.agg #[.string ⟨#[]⟩, .int .i64 0]) w := fun w => by kernel_rfl
  have hst := run_storeCells_cells (P := Tryz.prog) b o [.string ⟨#[]⟩, .int .i64 0] 0 w (by simpa using hc) (by simpa using hf) (by intro v hv'; simp at hv'; rcases hv' with rfl | rfl <;> rfl)
  simp only [Nat.add_zero] at hst
  have hzc : (Builtin.zeroCells (Value.agg #[.string ⟨#[]⟩, .int .i64 0]).cells 1).toList = [.string ⟨#[]⟩, .int .i64 0] := by simp [Builtin.zeroCells, Value.cells, Array.range]
  simp [Builtin.clear_, run_underlying Tryz.underlying33, hv, hzc, hst]
theorem OwnH.cellsAt {w : World} {base g n cap : Nat} {H : List M.Hd} (h : OwnH w base (.slice (some ⟨g, 0, none⟩) n cap) H) (i : Nat) (u : Value) (hu : (encH H)[i]? = some u) : w.cell? ⟨g, i, none⟩ = some u ∧ w.frozen? ⟨g, i, none⟩ = false := by
  obtain ⟨⟨hl, hor⟩, _⟩ := h
  rcases hor with ⟨ee, _⟩ | ⟨g', cap', cur, ee, hb, hh, hc, hm, hz, hx⟩
  · simp at ee
  · simp only [Value.slice.injEq, Option.some.injEq, Addr.mk.injEq] at ee
    obtain ⟨⟨rfl, _⟩, rfl, rfl⟩ := ee
    refine ⟨?_, frozen_of_row _ _ _ _ _ hh⟩
    rw [cell_of_row _ _ _ _ _ _ hh, ← hu, ← hx, List.getElem?_take]
    have hi : i < (encH H).length := (List.getElem?_eq_some_iff.1 hu).1
    rw [encH_length] at hi
    rw [if_pos hi]; simp
theorem OwnH.there {w : World} {base g n cap : Nat} {H : List M.Hd} (h : OwnH w base (.slice (some ⟨g, 0, none⟩) n cap) H) (i : Nat) (hi : i < cap * 2) : (w.cell? ⟨g, i, none⟩).isSome = true ∧ w.frozen? ⟨g, i, none⟩ = false := by
  obtain ⟨⟨hl, hor⟩, _⟩ := h
  rcases hor with ⟨ee, _⟩ | ⟨g', cap', cur, ee, hb, hh, hc, hm, hz, hx⟩
  · simp at ee
  · simp only [Value.slice.injEq, Option.some.injEq, Addr.mk.injEq] at ee
    obtain ⟨⟨rfl, _⟩, rfl, rfl⟩ := ee
    refine ⟨?_, frozen_of_row _ _ _ _ _ hh⟩
    rw [cell_of_row _ _ _ _ _ _ hh]
    simp [hz, hi]
theorem encH_drop (H : List M.Hd) (k : Nat) : encH (H.drop k) = (encH H).drop (k * 2) := by
  induction H generalizing k with
  | nil => simp [encH]
  | cons r t ih =>
    cases k with
    | zero => simp
    | succ k => rw [List.drop_succ_cons, ih, encH_cons, show (k + 1) * 2 = k * 2 + 1 + 1 by omega, List.drop_succ_cons, List.drop_succ_cons]
theorem encH_take (H : List M.Hd) (k : Nat) : encH (H.take k) = (encH H).take (k * 2) := by
  induction H generalizing k with
  | nil => simp [encH]
  | cons r t ih =>
    cases k with
    | zero => simp [encH]
    | succ k => rw [List.take_succ_cons, encH_cons, ih, encH_cons, show (k + 1) * 2 = k * 2 + 1 + 1 by omega, List.take_succ_cons, List.take_succ_cons]
set_option maxHeartbeats 4000000 in
set_option maxRecDepth 1000000 in
theorem sdelete_any (base g cap k : Nat) (H : List M.Hd) (w : World) (hH : OwnH w base (.slice (some ⟨g, 0, none⟩) H.length cap) H) (hk : k < H.length) (hcap : H.length ≤ cap) :
    Calls Tryz.prog 90 #[.slice (some ⟨g, 0, none⟩) H.length cap, .int .i64 k, .int .i64 ((k + 1 : Nat) : Int)] w fun e w' => e = .returned (.slice (some ⟨g, 0, none⟩) (H.length - 1) cap) ∧ OwnH w' base (.slice (some ⟨g, 0, none⟩) (H.length - 1) cap) (H.eraseIdx k) ∧ w.grownBy w' (some g) := by
  obtain ⟨i1, hi1, hy0, hy1, hy2⟩ := info_parts infoHead
  obtain ⟨n, hn⟩ : ∃ n, n = H.length := ⟨_, rfl⟩
  have hH0 : OwnH w.drew base (.slice (some ⟨g, 0, none⟩) n cap) H := by rw [hn]; exact hH.later ((Below.refl _ _).drew)
  obtain ⟨news, hnews⟩ : ∃ news, news = encH (H.drop (k + 1)) := ⟨_, rfl⟩
  have hlen : news.length = (n - (k + 1)) * 2 := by rw [hnews, encH_length, List.length_drop, hn]
  obtain ⟨A, hA, hsrc⟩ : ∃ A : Addr, (if cap = k + 1 then some (⟨g, 0, none⟩ : Addr) else some ⟨g, (k + 1) * 2, none⟩) = some A ∧ Hid (∀ t u, news[t]? = some u → w.drew.cell? (A.add t) = some u) := by
    by_cases h : cap = k + 1
    · refine ⟨⟨g, 0, none⟩, by simp [h], fun t u hu => ?_⟩
      have h0 : news.length = 0 := by rw [hlen]; omega
      rw [List.length_eq_zero_iff.1 h0] at hu
      simp at hu
    · refine ⟨⟨g, (k + 1) * 2, none⟩, by simp [h], fun t u hu => ?_⟩
      rw [Addr.add_lit]
      refine (hH0.cellsAt _ u ?_).1
      rw [hnews, encH_drop, List.getElem?_drop] at hu
      exact hu
  have s1 : Hid (news.length = (n - (k + 1)) * 2) := hlen
  have s2 : Hid (∀ u ∈ news, u.oneCell' = true) := by rw [hnews]; exact encH_one _
  have hEl : (encH H).length = n * 2 := by rw [encH_length, hn]
  have s3 : Hid (∀ t, t < news.length → (w.drew.cell? ⟨g, 0 + k * 2 + t, none⟩).isSome = true ∧ w.drew.frozen? ⟨g, 0 + k * 2 + t, none⟩ = false) := by
    intro t ht
    rw [hlen] at ht
    rw [Nat.zero_add]
    obtain ⟨h1, h2⟩ := hH0.cellsAt (k * 2 + t) _ (List.getElem?_eq_getElem (show k * 2 + t < (encH H).length by omega))
    exact ⟨by rw [h1]; rfl, h2⟩
  obtain ⟨W1, hW1⟩ : ∃ W1, W1 = w.drew.setCells g (0 + k * 2) news := ⟨_, rfl⟩
  have hgr1 : w.grownBy W1 (some g) := by
    rw [hW1]
    exact (show w.grownBy w.drew (some g) from ⟨rfl, rfl, rfl, Nat.le_refl _, fun _ _ _ => rfl⟩).trans (grownBy_setCells _ _ _ _)
  have hEl1 : (encH (H.eraseIdx k)).length = (n - 1) * 2 := by rw [encH_length, List.length_eraseIdx, if_pos hk, hn]
  have hEe : encH (H.eraseIdx k) = (encH H).take (k * 2) ++ (encH H).drop ((k + 1) * 2) := by rw [List.eraseIdx_eq_take_drop_succ, encH_append, encH_take, encH_drop]
  have hcap' : n ≤ cap := by omega
  have hkn : k < n := by omega
  have hsm : ∀ x ∈ H.eraseIdx k, x.1.size ≤ 9223372036854775807 := fun x hx => hH.2 x (List.mem_of_mem_eraseIdx hx)
  have hH1 : OwnH W1 base (.slice (some ⟨g, 0, none⟩) (n - 1) cap) (H.eraseIdx k) := by
    rw [hW1, Nat.zero_add]
    refine hH0.laid (k * 2) news (n - 1) (by rw [List.length_eraseIdx, if_pos hk, hn]) (by omega) (by omega) ?_ hsm
    intro cur hcl hcx
    rw [← hn] at hcx
    have hp : (cur.take (k * 2) ++ news).length = (n - 1) * 2 := by rw [List.length_append, List.length_take, hlen]; omega
    rw [show (H.eraseIdx k).length * 2 = (n - 1) * 2 by rw [List.length_eraseIdx, if_pos hk, hn], ← hp, List.take_left, hEe, ← hcx, List.take_take, show min (k * 2) (n * 2) = k * 2 by omega, hcx, hnews, encH_drop]
  have hcl : ∀ ty, (Builtin.clear_ #[33] ty #[.slice (some ⟨g, (n - 1) * 2, none⟩) 1 (cap - (n - 1))]).run Tryz.prog W1 = .ok (.tuple #[]) (W1.setCells g ((n - 1) * 2) [.string ⟨#[]⟩, .int .i64 0]) :=
    fun ty => run_clear_head W1 ty g ((n - 1) * 2) _ (fun j hj => (hH1.there _ (by omega)).1) (fun j hj => (hH1.there _ (by omega)).2)
  have X : Aside (OwnH W1 base (.slice (some ⟨g, 0, none⟩) (n - 1) cap) (H.eraseIdx k)) := hH1
  have HN : Aside (H.length = n) := hn.symm
  have HER : Aside ((encH (H.eraseIdx k)).length = (n - 1) * 2) := hEl1
  have hW : Hid (W1 = w.drew.setCells g (0 + k * 2) news) := hW1
  have hic : k ≤ cap := by omega
  have hjc : k + 1 ≤ cap := by omega
  have hn1 : k + (n - (k + 1)) = n - 1 := by omega
  have hb0 : 0 ≤ (k : Int) + 1 := by omega
  have hb1 : (k : Int) + 1 ≤ (n : Int) := by omega
  have hkk : (k : Int) ≠ ((k + 1 : Nat) : Int) := by omega
  have hnm : ¬ cap = n - 1 := by omega
  have hn2 : n - (n - 1) = 1 := by omega
  have hnI : (((n - 1 : Nat) : Int) ≤ (n : Int)) := by omega
  rw [← hn]
  clear hW1 hH1 hH hH0 hnews hlen hEl hEl1 hEe hn
  go_enter Tryz.func90, Tryz.ntmps90
  go_wp2_with fail
  go_region_law (refine step_append_room rfl (.tmp 22) (.tmp 25) 33 rfl 58 i1 2 Tryz.underlying33 hi1 hy1 g 0 k cap (by simp [Act.eval, Act.put]) A (n - (k + 1)) (cap - (k + 1)) news (by simp [Act.eval, Act.put]) s1.out hsrc.out s2.out (by omega) s3.out ?_; rw [← hW.out])
  go_wp2
  go_ret
  refine ⟨rfl, ?_, hgr1.trans (grownBy_setCells _ _ _ _)⟩
  have := HER.out
  refine X.out.laid ((n - 1) * 2) [.string ⟨#[]⟩, .int .i64 0] (n - 1) ?_ (by omega) (by simp; omega) ?_ hsm
  · rw [encH_length] at this; omega
  · intro cur hcl' hcx
    rw [encH_length] at this
    rw [List.append_assoc, List.take_append_of_le_length (by simp; omega), List.take_take, show min ((H.eraseIdx k).length * 2) ((n - 1) * 2) = (H.eraseIdx k).length * 2 by omega]
    exact hcx
end Go.Proofs.YtcgpgflnihjpiagGreat
namespace Go.Proofs.YtcgpgflnihjpiagGreat
open Go.RowKit Go.Shelf Go.Maps
def M.dropE (C : List M.Com) (H : List M.Hd) (s : ByteArray) : Int := if M.hchk C H s ≠ 0 then M.hchk C H s else if H.length = 1 then 1 else 0
def M.dropC (C : List M.Com) (H : List M.Hd) (s : ByteArray) : List M.Com := if M.dropE C H s = 0 then C else []
def M.dropH (C : List M.Com) (H : List M.Hd) (s : ByteArray) : List M.Hd := if M.dropE C H s = 0 then H.eraseIdx (M.plc H s).toNat else []
theorem wdrop1_any (db D n cap : Nat) (x : Option Addr) (w : World) (hl : w.cell? ⟨db, 0, none⟩ = some (.pointer (some ⟨D, 0, none⟩))) (hx : w.cell? ⟨D, 1, none⟩ = some (.slice x n cap)) :
    Calls Tryz.prog 89 #[.pointer (some ⟨db, 0, none⟩)] w fun e w' => e = .returned (.bool (decide (n = 1))) ∧ Below w.heap.size w w' := by
  go_enter Tryz.func89, Tryz.ntmps89
  go_wp2
  go_ret
  exact ⟨ret_bool (by rw [Bool.eq_iff_iff]; simp; omega), Below.refl _ _⟩
theorem below_of_grown {B : Nat} {w w' : World} {g : Nat} (h : w.grownBy w' (some g)) (hg : B ≤ g) (hB : B ≤ w.heap.size) : Below B w w' :=
  ⟨h.os, h.tape, h.output, h.size, fun k hk => h.block k (by omega) (fun e => by have : k = g := Option.some.inj e; omega)⟩
theorem DeskAt.reheaded {w w6 : World} {base D g : Nat} {x y z y' : Value} {C : List M.Com} {H' : List M.Hd} {A : List Int} {cur : Array Value} (h1 : w.heap[D]? = some (.cells #[x, y, z] 115 (0, 0))) (hbD : base ≤ D) (hx : OwnK w base x C) (hz : OwnI w base z A)
    (hg : w.heap[g]? = some (.cells cur 58 (0, 0))) (hgr : w.grownBy w6 (some g)) (hy : OwnH w6 base y' H') :
    DeskAt (w6.setCell ⟨D, 1, none⟩ y') base D C H' A ∧ w6.heap[D]? = some (.cells #[x, y, z] 115 (0, 0)) := by
  have hne : D ≠ g := fun e => by rw [← e, h1] at hg; simp at hg
  have h6 : w6.heap[D]? = some (.cells #[x, y, z] 115 (0, 0)) := (hgr.block D (Array.getElem?_eq_some_iff.1 h1).1 (by simp [hne])).trans h1
  have g6 := grownBy_set w6 ⟨D, 1, none⟩ y'
  refine ⟨⟨x, y', z, ?_, hbD, (hx.elsewhere hgr hg (by decide) (by decide) (by decide)).elsewhere g6 h6 (by decide) (by decide) (by decide), hy.elsewhere g6 h6 (by decide), ?_⟩, h6⟩
  · rw [heap_setCell_same _ _ _ _ _ _ h6]; rfl
  · refine ownsRow_elsewhere (ownsRow_elsewhere hz hgr fun r hr cur' he => ?_) g6 fun r hr cur' he => ?_
    · cases hr; rw [hg] at he; simp at he
    · cases hr; rw [h6] at he; simp at he
set_option maxRecDepth 100000 in
set_option maxHeartbeats 16000000 in
theorem wdrop_any (a : Option Addr) (n cap : Nat) (C : List M.Com) (a2 : Option Addr) (n2 cap2 : Nat) (H : List M.Hd) (s : ByteArray) (w : World) (hV : RepoV w a n cap C a2 n2 cap2 H) :
    Calls Tryz.prog 42 #[.agg #[.slice a n cap, .slice a2 n2 cap2], .string s] w fun e w' => ∃ v, e = .returned (.tuple #[v, .int .i64 (M.dropE C H s)]) ∧ RepoOwn w' w.heap.size v (M.dropC C H s) (M.dropH C H s) ∧ Below w.heap.size w w' := by
  obtain ⟨p, hp⟩ : ∃ p, p = w.heap.size := ⟨_, rfl⟩
  obtain ⟨W, hW⟩ : ∃ W, W = ((w.alloc (.cells #[.slice a n cap, .slice a2 n2 cap2] 35)).alloc (.cells #[.slice none 0 0, .slice none 0 0] 35)).alloc (.cells #[.string s] 9) := ⟨_, rfl⟩
  have hb : Below w.heap.size w W := by rw [hW]; exact (((Below.refl _ _).alloc (Nat.le_refl _) _).alloc (by simp) _).alloc (by simp; omega) _
  obtain ⟨R, hR⟩ : ∃ R, R = p + 1 := ⟨_, rfl⟩
  have hsz : W.heap.size = R + 2 := by rw [hW, hR, hp]; simp
  have q2 : W.heap[R]? = some (.cells #[.slice none 0 0, .slice none 0 0] 35 (0, 0)) := by
    rw [hW, Below.heap_alloc _ _ _ (by simp; omega), show R = (w.alloc (.cells #[.slice a n cap, .slice a2 n2 cap2] 35)).heap.size by rw [hR, hp]; simp]
    exact heap_alloc_new _ _
  have hNs : Ns W (R + 1) 1 [s] := ⟨rfl, by omega, fun i hi => by
    obtain rfl : i = 0 := by omega
    rw [hW, hR, hp]; simp [go_sem]⟩
  have KO := open_any a n cap C a2 n2 cap2 H (R + 1) 1 [s] W (hV.later hb) hNs (by omega) (by omega)
  have HO : Hid (Calls Tryz.prog 67 #[.agg #[.slice a n cap, .slice a2 n2 cap2], .slice (some ⟨R + 1, 0, none⟩) 1 1] W fun e w' => Below W.heap.size W w' ∧
      ((M.openE C H [s] ≠ 0 ∧ e = .returned (.tuple #[.pointer none, .int .i64 (M.openE C H [s])])) ∨ (M.openE C H [s] = 0 ∧ M.rchk C H = 0 ∧ ∃ D, e = .returned (.tuple #[.pointer (some ⟨D, 0, none⟩), .int .i64 0]) ∧ DeskAt w' W.heap.size D C H ([s].map (M.hat C H))))) := KO
  have eO : M.openE C H [s] = M.hchk C H s := by
    by_cases h : M.hchk C H s = 0
    · simp [M.openE, h]
    · simp [M.openE, h]
  rw [eO] at HO
  have HW : Hid (W = ((w.alloc (.cells #[.slice a n cap, .slice a2 n2 cap2] 35)).alloc (.cells #[.slice none 0 0, .slice none 0 0] 35)).alloc (.cells #[.string s] 9)) := hW
  have HP : Aside (p = w.heap.size) := hp
  have HR : Aside (R = p + 1) := hR
  have hpR : p < R := by omega
  have HPR : Aside (w.heap.size ≤ p) := by unfold Aside; omega
  clear KO eO hW hp hV hNs hR
  go_enter Tryz.func42, Tryz.ntmps42
  go_wp2_with fail
  rw [← HW.out, ← HP.out, ← HR.out]
  refine HO.out.mono ?_
  rintro e w1 ⟨b1, hor⟩
  have hs1 := b1.size
  have hRl : R < w1.heap.size := by omega
  have r2 : w1.heap[R]? = some (.cells #[.slice none 0 0, .slice none 0 0] 35 (0, 0)) := (b1.block (R) (by omega)).trans q2
  have hbw : Below w.heap.size w w1 := hb.trans (b1.mono hb.size)
  rcases hor with ⟨hne0, rfl⟩ | ⟨hz, hr0, D, rfl, hD⟩
  · have E : Aside (M.dropE C H s = M.hchk C H s) := by unfold Aside M.dropE; rw [if_pos hne0]
    have EC : Aside (M.dropC C H s = [] ∧ M.dropH C H s = []) := ⟨by unfold M.dropC; rw [E.out, if_neg hne0], by unfold M.dropH; rw [E.out, if_neg hne0]⟩
    obtain ⟨c, hc⟩ : ∃ c, c = M.hchk C H s := ⟨_, rfl⟩
    rw [← hc] at E hne0 ⊢
    have hne : (c != 0) = true := by simp [hne0]
    obtain ⟨g1, g2, g3⟩ := res_set r2 (.slice none 0 0) (.slice none 0 0)
    obtain ⟨Y, hY⟩ : ∃ Y, Y = (w1.setCell ⟨R, 0, none⟩ (.slice none 0 0)).setCell ⟨R, 1, none⟩ (.slice none 0 0) := ⟨_, rfl⟩
    rw [← hY] at g1 g3
    have bY : Below w.heap.size w Y := by rw [hY]; exact (hbw.setCell (p := ⟨R, 0, none⟩) (by show _ ≤ R; have := HPR.out; omega) _).setCell (p := ⟨R, 1, none⟩) (by show _ ≤ R; have := HPR.out; omega) _
    obtain ⟨X, hX⟩ : ∃ X, X = Y.alloc (.cells #[.pointer none] 106) := ⟨_, rfl⟩
    have bX : Below w.heap.size w X := by rw [hX]; exact bY.alloc bY.size _
    have gX : X.heap[R]? = some (.cells #[.slice none 0 0, .slice none 0 0] 35 (0, 0)) := by rw [hX, Below.heap_alloc _ _ _ (by omega)]; exact g1
    have HX9 : Hid (X = ((w1.setCell ⟨R, 0, none⟩ (.slice none 0 0)).setCell ⟨R, 1, none⟩ (.slice none 0 0)).alloc (.cells #[.pointer none] 106)) := by rw [← hY]; exact hX
    have HX0 : Aside (X.cell? ⟨R, 0, none⟩ = some (.slice none 0 0)) := by unfold Aside; rw [cell_of_row _ _ _ _ _ _ gX]; rfl
    have HX1 : Aside (X.cell? ⟨R, 1, none⟩ = some (.slice none 0 0)) := by unfold Aside; rw [cell_of_row _ _ _ _ _ _ gX]; rfl
    have x0 : w1.cell? ⟨R, 0, none⟩ = some (.slice none 0 0) := by rw [cell_of_row _ _ _ _ _ _ r2]; rfl
    have x1 : w1.cell? ⟨R, 1, none⟩ = some (.slice none 0 0) := by rw [cell_of_row _ _ _ _ _ _ r2]; rfl
    have f0 : w1.frozen? ⟨R, 0, none⟩ = false := frozen_of_row _ _ _ _ _ r2
    have f1 : w1.frozen? ⟨R, 1, none⟩ = false := frozen_of_row _ _ _ _ _ r2
    clear g1 g2 g3 hX gX hY bY r2 hne0 hc
    go_wp2
    rw [← HX9.out]
    have y0 := HX0.out
    have y1 := HX1.out
    refine bodyPost_ret (v := .tuple #[.agg #[.slice none 0 0, .slice none 0 0], .int .i64 c]) (by simp [results, Tryz.results42, go_sem, y0, y1]) rfl ?_
    refine ⟨_, ret_two' E.out.symm, ?_, bX⟩
    rw [EC.out.1, EC.out.2]; exact RepoOwn.none _ _
  · have hlen := M.rchk_zero hr0
    have hH4 : H.length ≤ 4 := hlen.2.1
    have hplc : 0 ≤ M.plc H s := (M.hchk_zero hz).2
    have hDl := hD.lt
    have hDb : R + 2 ≤ D := by obtain ⟨_, _, _, _, h2, _⟩ := hD; omega
    obtain ⟨db, hdb⟩ : ∃ db, db = w1.heap.size := ⟨_, rfl⟩
    obtain ⟨A, hA⟩ : ∃ A, A = [s].map (M.hat C H) := ⟨_, rfl⟩
    rw [← hA] at hD
    obtain ⟨w2, hw2⟩ : ∃ w2, w2 = w1.alloc (.cells #[.pointer (some ⟨D, 0, none⟩)] 106) := ⟨_, rfl⟩
    have b2 : Below w1.heap.size w1 w2 := by rw [hw2]; exact (Below.refl _ _).alloc (Nat.le_refl _) _
    obtain ⟨w3, hw3⟩ : ∃ w3, w3 = w2.alloc (.cells #[.int .i64 1, .func (.func 89) #[] #[.pointer (some ⟨db, 0, none⟩)]] 113) := ⟨_, rfl⟩
    have b3 : Below w2.heap.size w2 w3 := by rw [hw3]; exact (Below.refl _ _).alloc (Nat.le_refl _) _
    have hs2 : w2.heap.size = db + 1 := by rw [hw2, hdb]; simp
    have hs3 : w3.heap.size = db + 1 + 1 := by rw [hw3]; simp [hs2]
    have blkd : w3.heap[db]? = some (.cells #[.pointer (some ⟨D, 0, none⟩)] 106 (0, 0)) := by
      rw [hw3, Below.heap_alloc _ _ _ (by omega), hw2, hdb]; exact heap_alloc_new _ _
    have b13 : Below w1.heap.size w1 w3 := dbelow2 b2 b3
    have D3 : DeskAt w3 W.heap.size D C H A := hD.later b13
    have KF := firstOf_any (db + 1) 1 [⟨1, 89, [.pointer (some ⟨db, 0, none⟩)], decide (H.length = 1)⟩] w3 rfl (by omega) (by omega)
      (fun i hi => by
        rw [hw3, ← hs2]
        match i, hi with
        | 0, _ => constructor <;> simp [go_sem])
      (fun b hb => by
        simp only [List.mem_cons, List.not_mem_nil, or_false] at hb
        rcases hb with rfl
        refine ⟨enters_of Tryz.func89 (by kernel_rfl) rfl, fun V hV => ?_⟩
        obtain ⟨x, y, z, e1, _, _, e4, _⟩ := D3.later hV
        obtain ⟨ya, yc, rfl, _⟩ := e4.hs
        exact wdrop1_any db D H.length yc ya V (by rw [cell_of_row _ _ _ _ _ _ ((hV.block db (by omega)).trans blkd)]; rfl) (by rw [cell_of_row _ _ _ _ _ _ e1]; rfl))
    obtain ⟨c, hc⟩ : ∃ c, c = firstE [⟨1, 89, [.pointer (some ⟨db, 0, none⟩)], decide (H.length = 1)⟩] := ⟨_, rfl⟩
    rw [← hc] at KF
    have HE : Aside (M.dropE C H s = c) := by
      unfold Aside M.dropE
      rw [if_neg (by rw [hz]; simp), hc]
      by_cases h : H.length = 1
      · simp [firstE, h]
      · simp [firstE, h]
    have HKF : Hid (Calls Tryz.prog 68 #[.slice (some ⟨db + 1, 0, none⟩) 1 1] w3 fun e w' => e = .returned (.int .i64 c) ∧ Below w3.heap.size w3 w') := KF
    have HW3 : Hid (w3 = (w1.alloc (.cells #[.pointer (some ⟨D, 0, none⟩)] 106)).alloc (.cells #[.int .i64 1, .func (.func 89) #[] #[.pointer (some ⟨db, 0, none⟩)]] 113)) := by rw [← hw2]; exact hw3
    have HDB : Aside (db = w1.heap.size) := hdb
    have HD3 : Aside (DeskAt w3 W.heap.size D C H A) := D3
    have HBD : Aside (w3.heap[db]? = some (.cells #[.pointer (some ⟨D, 0, none⟩)] 106 (0, 0))) := blkd
    have hb3w : Below w.heap.size w w3 := hbw.trans (b13.mono hbw.size)
    have HR3 : Aside (w3.heap[R]? = some (.cells #[.slice none 0 0, .slice none 0 0] 35 (0, 0))) := (b13.block R (by omega)).trans r2
    have hs3' : R + 2 < w3.heap.size ∧ db < w3.heap.size ∧ D < w3.heap.size ∧ W.heap.size ≤ w3.heap.size := by omega
    clear KF hw2 hw3 D3 blkd hc hz hD b2 b3 r2 hlen b13 hdb hs2 hs3 hA
    go_wp2_with fail
    rw [← HDB.out, ← HW3.out]
    refine HKF.out.mono ?_
    rintro e w4 ⟨rfl, b4⟩
    have hs4 := b4.size
    have w4b : Below w.heap.size w w4 := hb3w.trans (b4.mono hb3w.size)
    have w4r : w4.heap[R]? = some (.cells #[.slice none 0 0, .slice none 0 0] 35 (0, 0)) := (b4.block R (by omega)).trans HR3.out
    by_cases hc0 : c = 0
    · have hne : (c != 0) = false := by simp [hc0]
      have E0 : Aside (M.dropE C H s = 0) := by unfold Aside; rw [HE.out]; exact hc0
      have EC : Aside (M.dropC C H s = C ∧ M.dropH C H s = H.eraseIdx (M.plc H s).toNat) := ⟨by unfold M.dropC; rw [if_pos E0.out], by unfold M.dropH; rw [if_pos E0.out]⟩
      have D4 : DeskAt w4 W.heap.size D C H A := HD3.out.later b4
      have HD4 : Aside (DeskAt w4 W.heap.size D C H A) := D4
      have d4 : w4.heap[db]? = some (.cells #[.pointer (some ⟨D, 0, none⟩)] 106 (0, 0)) := (b4.block db (by omega)).trans HBD.out
      have Hd4 : Aside (w4.heap[db]? = some (.cells #[.pointer (some ⟨D, 0, none⟩)] 106 (0, 0))) := d4
      have k0 : w4.cell? ⟨db, 0, none⟩ = some (.pointer (some ⟨D, 0, none⟩)) := by rw [cell_of_row _ _ _ _ _ _ d4]; rfl
      have KP := dplace_any D W.heap.size C H A s w4 D4
      obtain ⟨k, hk⟩ : ∃ k : Nat, M.plc H s = (k : Int) := ⟨(M.plc H s).toNat, by omega⟩
      have hkl : k < H.length := by rcases M.plc_lt H s with h | h <;> omega
      have EC2 : Aside (M.dropC C H s = C ∧ M.dropH C H s = H.eraseIdx k) := by unfold Aside; rw [EC.out.1, EC.out.2, hk]; exact ⟨rfl, rfl⟩
      rw [hk] at KP
      have HKP : Hid (Calls Tryz.prog 78 #[.pointer (some ⟨D, 0, none⟩), .string s] w4 fun e w' => e = .returned (.int .i64 (k : Int)) ∧ Below w4.heap.size w4 w') := KP
      have HR4 : Aside (w4.heap[R]? = some (.cells #[.slice none 0 0, .slice none 0 0] 35 (0, 0))) := w4r
      have HWw : Hid (w.heap.size ≤ W.heap.size) := hb.size
      clear hc0 HKF KP D4 d4 w4r hk hplc EC
      go_wp2_with fail
      refine HKP.out.mono ?_
      rintro e w5 ⟨rfl, b5⟩
      have hs5 := b5.size
      have D5 : DeskAt w5 W.heap.size D C H A := HD4.out.later b5
      have HD5 : Aside (DeskAt w5 W.heap.size D C H A) := D5
      obtain ⟨x5, y5, z5, e5, hbD, ok5, oh5, oi5⟩ := D5
      obtain ⟨g, cp, rfl⟩ : ∃ g cp, y5 = .slice (some ⟨g, 0, none⟩) H.length cp := by
        rcases oh5.1.2 with ⟨_, e⟩ | ⟨g, cap, _, e, _⟩
        · omega
        · exact ⟨g, cap, e⟩
      have d5 : w5.heap[db]? = some (.cells #[.pointer (some ⟨D, 0, none⟩)] 106 (0, 0)) := (b5.block db (by omega)).trans Hd4.out
      have k1 : w5.cell? ⟨db, 0, none⟩ = some (.pointer (some ⟨D, 0, none⟩)) := by rw [cell_of_row _ _ _ _ _ _ d5]; rfl
      have k2 : w5.cell? ⟨D, 1, none⟩ = some (.slice (some ⟨g, 0, none⟩) H.length cp) := by rw [cell_of_row _ _ _ _ _ _ e5]; rfl
      obtain ⟨cur, hgb, hgbase, hcp⟩ : ∃ cur, w5.heap[g]? = some (.cells cur 58 (0, 0)) ∧ W.heap.size ≤ g ∧ H.length ≤ cp := by
        rcases oh5.1.2 with ⟨e, _⟩ | ⟨g', cap', cur, e, hb', hh, hc', _⟩
        · simp at e
        · simp only [Value.slice.injEq, Option.some.injEq, Addr.mk.injEq] at e
          obtain ⟨⟨rfl, _⟩, _, rfl⟩ := e
          exact ⟨cur, hh, hb', hc'⟩
      have HDl : Hid (Calls Tryz.prog 90 #[.slice (some ⟨g, 0, none⟩) H.length cp, .int .i64 k, .int .i64 ((k : Int) + 1)] w5.drew fun e w' => e = .returned (.slice (some ⟨g, 0, none⟩) (H.length - 1) cp) ∧ OwnH w' W.heap.size (.slice (some ⟨g, 0, none⟩) (H.length - 1) cp) (H.eraseIdx k) ∧ w5.drew.grownBy w' (some g)) := sdelete_any W.heap.size g cp k H w5.drew (oh5.later ((Below.refl _ _).drew)) hkl hcp
      have hgD : D ≠ g := fun e => by rw [← e, e5] at hgb; simp at hgb
      have hgd : db ≠ g := fun e => by rw [← e, d5] at hgb; simp at hgb
      have HRh : Aside (∀ w6, OwnH w6 W.heap.size (.slice (some ⟨g, 0, none⟩) (H.length - 1) cp) (H.eraseIdx k) → w5.drew.grownBy w6 (some g) → DeskAt (w6.setCell ⟨D, 1, none⟩ (.slice (some ⟨g, 0, none⟩) (H.length - 1) cp)) W.heap.size D C (H.eraseIdx k) A ∧ w6.heap[D]? = some (.cells #[x5, .slice (some ⟨g, 0, none⟩) H.length cp, z5] 115 (0, 0)) ∧ w6.heap[db]? = some (.cells #[.pointer (some ⟨D, 0, none⟩)] 106 (0, 0)) ∧ Below W.heap.size w5 w6) := by
        intro w6 ho hg6
        have hg6' : w5.grownBy w6 (some g) := ⟨hg6.os, hg6.tape, hg6.output, hg6.size, hg6.block⟩
        obtain ⟨r1, r2⟩ := DeskAt.reheaded e5 hbD ok5 oi5 hgb hg6' ho
        exact ⟨r1, r2, (hg6'.block db (by omega) (by simp [hgd])).trans d5, below_of_grown hg6' hgbase (by omega)⟩
      have hwk : IntKind.i64.wrap ((k : Int) + 1) = (k : Int) + 1 := by rw [IntKind.wrap_i64]; omega
      have w5b : Below w.heap.size w w5 := w4b.trans (b5.mono w4b.size)
      have HR5 : Aside (w5.heap[R]? = some (.cells #[.slice none 0 0, .slice none 0 0] 35 (0, 0))) := (b5.block R (by omega)).trans HR4.out
      clear e5 ok5 oh5 oi5 hgb d5 HKP
      generalize hHl : H.length = hl at *
      go_wp2_with fail
      refine wp_region_till 13 (fun V => V.cell? ⟨db, 0, none⟩ = some (.pointer (some ⟨D, 0, none⟩)) ∧ V.cell? ⟨D, 1, none⟩ = some (.slice (some ⟨g, 0, none⟩) hl cp)) (by kernel_rfl) ⟨k1, k2⟩ (fun hHeld => ?_)
      refine till_take 0 (v := .pointer (some ⟨D, 0, none⟩)) rfl (by decide) (by kernel_rfl) (by kernel_rfl) (by kernel_rfl) (by kernel_rfl) (by kernel_rfl) (fun _ _ _ h => h) (Or.inl ⟨by rfl, fun V hV => (by obtain ⟨v0, v1⟩ := hV; go_simp)⟩) hHeld ?_
      try simp only [Act.put]
      refine till_take 1 (v := .pointer (some ⟨D, 0, none⟩)) rfl (by decide) (by kernel_rfl) (by kernel_rfl) (by kernel_rfl) (by kernel_rfl) (by kernel_rfl) (fun _ _ _ h => h) (Or.inl ⟨by rfl, fun V hV => (by obtain ⟨v0, v1⟩ := hV; go_simp)⟩) hHeld ?_
      try simp only [Act.put]
      refine till_go 2 (v := .pointer (some ⟨D, 0, none⟩)) rfl (by decide) (by kernel_rfl) (by kernel_rfl) (by kernel_rfl) (fun _ _ _ h => h) (Or.inl ⟨by rfl, fun V _ => (by go_simp)⟩) hHeld ?_
      try simp only [Act.put]
      refine till_go 3 (v := .pointer (some ⟨D, 0, none⟩)) rfl (by decide) (by kernel_rfl) (by kernel_rfl) (by kernel_rfl) (fun _ _ _ h => h) (Or.inl ⟨by rfl, fun V _ => (by go_simp)⟩) hHeld ?_
      try simp only [Act.put]
      refine till_go 4 (v := .pointer (some ⟨D, 1, none⟩)) rfl (by decide) (by kernel_rfl) (by kernel_rfl) (by kernel_rfl) (fun _ _ _ h => h) (Or.inl ⟨by rfl, fun V _ => (by go_simp)⟩) hHeld ?_
      try simp only [Act.put]
      refine till_take 5 (v := .slice (some ⟨g, 0, none⟩) hl cp) rfl (by decide) (by kernel_rfl) (by kernel_rfl) (by kernel_rfl) (by kernel_rfl) (by kernel_rfl) (fun _ _ _ h => h) (Or.inl ⟨by rfl, fun V hV => (by obtain ⟨v0, v1⟩ := hV; go_simp)⟩) hHeld ?_
      try simp only [Act.put]
      refine till_go 6 (v := .int .i64 (k : Int)) rfl (by decide) (by kernel_rfl) (by kernel_rfl) (by kernel_rfl) (fun _ _ _ h => h) (Or.inl ⟨by rfl, fun V _ => (by go_simp)⟩) hHeld ?_
      try simp only [Act.put]
      refine till_go 7 (v := .int .i64 (k : Int)) rfl (by decide) (by kernel_rfl) (by kernel_rfl) (by kernel_rfl) (fun _ _ _ h => h) (Or.inl ⟨by rfl, fun V _ => (by go_simp)⟩) hHeld ?_
      try simp only [Act.put]
      refine till_go 8 (v := .int .i64 ((k : Int) + 1)) rfl (by decide) (by kernel_rfl) (by kernel_rfl) (by kernel_rfl) (fun _ _ _ h => h) (Or.inl ⟨by rfl, fun V _ => (by go_simp)⟩) hHeld ?_
      try simp only [Act.put]
      refine till_step 9 rfl (by decide) (by kernel_rfl) (fun K hK => ?_)
      go_simp
      refine HDl.out.mono ?_
      rintro e w6 ⟨rfl, ho6, hg6⟩
      obtain ⟨hd8, e6, d6, b6⟩ := HRh.out w6 ho6 hg6
      have n0 : w6.cell? ⟨db, 0, none⟩ = some (.pointer (some ⟨D, 0, none⟩)) := by rw [cell_of_row _ _ _ _ _ _ d6]; rfl
      have n1 : w6.cell? ⟨D, 1, none⟩ = some (.slice (some ⟨g, 0, none⟩) hl cp) := by rw [cell_of_row _ _ _ _ _ _ e6]; rfl
      have nf : w6.frozen? ⟨D, 1, none⟩ = false := frozen_of_row _ _ _ _ _ e6
      have HD8 : Hid (DeskAt (w6.setCell ⟨D, 1, none⟩ (.slice (some ⟨g, 0, none⟩) (hl - 1) cp)) W.heap.size D C (H.eraseIdx k) A) := hd8
      have hDd : D ≠ db := fun e => by rw [e, d6] at e6; simp at e6
      have HB8 : Hid (Below w.heap.size w (w6.setCell ⟨D, 1, none⟩ (.slice (some ⟨g, 0, none⟩) (hl - 1) cp))) := (w5b.trans (b6.mono HWw.out)).setCell (p := ⟨D, 1, none⟩) (by show _ ≤ D; have := HWw.out; omega) _
      have HR8 : Hid ((w6.setCell ⟨D, 1, none⟩ (.slice (some ⟨g, 0, none⟩) (hl - 1) cp)).heap[R]? = some (.cells #[.slice none 0 0, .slice none 0 0] 35 (0, 0))) := by
        unfold Hid
        rw [heap_setCell_other _ _ _ _ (show R ≠ D by omega)]
        exact (b6.block R (by omega)).trans HR5.out
      have Hd8 : Hid ((w6.setCell ⟨D, 1, none⟩ (.slice (some ⟨g, 0, none⟩) (hl - 1) cp)).heap[db]? = some (.cells #[.pointer (some ⟨D, 0, none⟩)] 106 (0, 0))) := by
        unfold Hid
        rw [heap_setCell_other _ _ _ _ (show db ≠ D from fun e => hDd e.symm)]
        exact d6
      clear hd8 e6 d6 b6 ho6 hg6 hDd
      go_simp
      refine hK.out _ _ ⟨n0, n1⟩ (fun hHeld => ?_)
      clear hK K
      refine till_go 10 (v := .pointer (some ⟨D, 0, none⟩)) rfl (by decide) (by kernel_rfl) (by kernel_rfl) (by kernel_rfl) (fun _ _ _ h => h) (Or.inl ⟨by rfl, fun V _ => (by go_simp)⟩) hHeld ?_
      try simp only [Act.put]
      refine till_go 11 (v := .pointer (some ⟨D, 0, none⟩)) rfl (by decide) (by kernel_rfl) (by kernel_rfl) (by kernel_rfl) (fun _ _ _ h => h) (Or.inl ⟨by rfl, fun V _ => (by go_simp)⟩) hHeld ?_
      try simp only [Act.put]
      refine till_go 12 (v := .pointer (some ⟨D, 1, none⟩)) rfl (by decide) (by kernel_rfl) (by kernel_rfl) (by kernel_rfl) (fun _ _ _ h => h) (Or.inl ⟨by rfl, fun V _ => (by go_simp)⟩) hHeld ?_
      try simp only [Act.put]
      refine till_last rfl (by kernel_rfl) (by kernel_rfl) (fun K hK => ?_) _
      go_simp
      refine hK.out _ _ ?_
      clear hK K hHeld
      obtain ⟨w8, hw8⟩ : ∃ w8, w8 = w6.setCell ⟨D, 1, none⟩ (.slice (some ⟨g, 0, none⟩) (hl - 1) cp) := ⟨_, rfl⟩
      rw [← hw8] at HD8 HB8 HR8 Hd8 ⊢
      have hd8 := HD8.out
      have w8b := HB8.out
      have w8r := HR8.out
      have d8 := Hd8.out
      clear hw8 HD8 HB8 HR8 Hd8 n0 n1 nf k0 k1 k2
      have m0 : w8.cell? ⟨db, 0, none⟩ = some (.pointer (some ⟨D, 0, none⟩)) := by rw [cell_of_row _ _ _ _ _ _ d8]; rfl
      obtain ⟨x8, y8, z8, e8, _, o8, h8, _⟩ := hd8
      obtain ⟨xa8, xc8, rfl, _⟩ := o8.cm
      obtain ⟨ya8, yc8, rfl, _⟩ := h8.hs
      generalize hln : (C).length = ln at *
      generalize hlh : (H.eraseIdx k).length = lh at *
      have m1 : w8.cell? ⟨D, 0, none⟩ = some (.slice xa8 ln xc8) := by rw [cell_of_row _ _ _ _ _ _ e8]; rfl
      have m2 : w8.cell? ⟨D, 1, none⟩ = some (.slice ya8 lh yc8) := by rw [cell_of_row _ _ _ _ _ _ e8]; rfl
      have HRO : Aside (RepoOwn ((w8.setCell ⟨R, 0, none⟩ (.slice xa8 ln xc8)).setCell ⟨R, 1, none⟩ (.slice ya8 lh yc8)) w.heap.size (.agg #[.slice xa8 ln xc8, .slice ya8 lh yc8]) (M.dropC C H s) (M.dropH C H s)) := by unfold Aside; rw [EC2.out.1, EC2.out.2]; exact (repoOwn_set w8r o8 h8).lower HWw.out
      obtain ⟨g1, g2, g3⟩ := res_set w8r (.slice xa8 ln xc8) (.slice ya8 lh yc8)
      obtain ⟨X, hX⟩ : ∃ X, X = (w8.setCell ⟨R, 0, none⟩ (.slice xa8 ln xc8)).setCell ⟨R, 1, none⟩ (.slice ya8 lh yc8) := ⟨_, rfl⟩
      rw [← hX] at g1 HRO
      have bX : Below w.heap.size w X := by rw [hX]; exact (w8b.setCell (p := ⟨R, 0, none⟩) (by show _ ≤ R; have := HPR.out; omega) _).setCell (p := ⟨R, 1, none⟩) (by show _ ≤ R; have := HPR.out; omega) _
      have HX9 : Hid (X = (w8.setCell ⟨R, 0, none⟩ (.slice xa8 ln xc8)).setCell ⟨R, 1, none⟩ (.slice ya8 lh yc8)) := hX
      have HX0 : Aside (X.cell? ⟨R, 0, none⟩ = some (.slice xa8 ln xc8)) := by unfold Aside; rw [cell_of_row _ _ _ _ _ _ g1]; rfl
      have HX1 : Aside (X.cell? ⟨R, 1, none⟩ = some (.slice ya8 lh yc8)) := by unfold Aside; rw [cell_of_row _ _ _ _ _ _ g1]; rfl
      have x0 : w8.cell? ⟨R, 0, none⟩ = some (.slice none 0 0) := by rw [cell_of_row _ _ _ _ _ _ w8r]; rfl
      have x1 : w8.cell? ⟨R, 1, none⟩ = some (.slice none 0 0) := by rw [cell_of_row _ _ _ _ _ _ w8r]; rfl
      have f0 : w8.frozen? ⟨R, 0, none⟩ = false := frozen_of_row _ _ _ _ _ w8r
      have f1 : w8.frozen? ⟨R, 1, none⟩ = false := frozen_of_row _ _ _ _ _ w8r
      clear g1 g2 g3 hX w8r e8 o8 h8 d8 hln hlh
      go_wp2
      rw [← HX9.out]
      have y0 := HX0.out
      have y1 := HX1.out
      refine bodyPost_ret (v := .tuple #[.agg #[.slice xa8 ln xc8, .slice ya8 lh yc8], .int .i64 0]) (by simp [results, Tryz.results42, go_sem, y0, y1]) rfl ?_
      exact ⟨_, ret_two' E0.out.symm, HRO.out, bX⟩
    · have hne : (c != 0) = true := by simp [hc0]
      have EC : Aside (M.dropC C H s = [] ∧ M.dropH C H s = []) := ⟨by unfold M.dropC; rw [HE.out, if_neg hc0], by unfold M.dropH; rw [HE.out, if_neg hc0]⟩
      obtain ⟨g1, g2, g3⟩ := res_set w4r (.slice none 0 0) (.slice none 0 0)
      obtain ⟨X, hX⟩ : ∃ X, X = (w4.setCell ⟨R, 0, none⟩ (.slice none 0 0)).setCell ⟨R, 1, none⟩ (.slice none 0 0) := ⟨_, rfl⟩
      rw [← hX] at g1
      have bX : Below w.heap.size w X := by rw [hX]; exact (w4b.setCell (p := ⟨R, 0, none⟩) (by show _ ≤ R; have := HPR.out; omega) _).setCell (p := ⟨R, 1, none⟩) (by show _ ≤ R; have := HPR.out; omega) _
      have gX := g1
      have HX9 : Hid (X = (w4.setCell ⟨R, 0, none⟩ (.slice none 0 0)).setCell ⟨R, 1, none⟩ (.slice none 0 0)) := hX
      have HX0 : Aside (X.cell? ⟨R, 0, none⟩ = some (.slice none 0 0)) := by unfold Aside; rw [cell_of_row _ _ _ _ _ _ gX]; rfl
      have HX1 : Aside (X.cell? ⟨R, 1, none⟩ = some (.slice none 0 0)) := by unfold Aside; rw [cell_of_row _ _ _ _ _ _ gX]; rfl
      have x0 : w4.cell? ⟨R, 0, none⟩ = some (.slice none 0 0) := by rw [cell_of_row _ _ _ _ _ _ w4r]; rfl
      have x1 : w4.cell? ⟨R, 1, none⟩ = some (.slice none 0 0) := by rw [cell_of_row _ _ _ _ _ _ w4r]; rfl
      have f0 : w4.frozen? ⟨R, 0, none⟩ = false := frozen_of_row _ _ _ _ _ w4r
      have f1 : w4.frozen? ⟨R, 1, none⟩ = false := frozen_of_row _ _ _ _ _ w4r
      clear g1 g2 g3 hX gX w4r hc0 HKF b4
      go_wp2
      rw [← HX9.out]
      have y0 := HX0.out
      have y1 := HX1.out
      refine bodyPost_ret (v := .tuple #[.agg #[.slice none 0 0, .slice none 0 0], .int .i64 c]) (by simp [results, Tryz.results42, go_sem, y0, y1]) rfl ?_
      refine ⟨_, ret_two' HE.out.symm, ?_, bX⟩
      rw [EC.out.1, EC.out.2]; exact RepoOwn.none _ _
end Go.Proofs.YtcgpgflnihjpiagGreat
