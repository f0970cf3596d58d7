/- For every three slices of rows, the law ThreePatch returns true and leaves its arguments as they were: where nothing clashes, what Merge of the landed three package answers are the one's rows with those changes of the other laid on by Patch of the landed diff package that the one has not. No condition. -/
import Derived.Test.YtcgpgflnihjpiadDiff0
import Derived.Test.YtcgpgflnihjpiadMp
import Derived.Test.YtcgpgflnihjpiadKeys
import Derived.Test.YtcgpgflnihjpiadCh1
import Derived.Test.YtcgpgflnihjpiadPatch2
import Derived.Test.YtcgpgflnihjpiadFew
import Derived.Test.YtcgpgflnihjpiadSame
import Derived.Test.YtcgpgflnihjpiadFindA
import Derived.Test.YtcgpgflnihjpiadRows
import Derived.Test.YtcgpgflnihjpiadBase
import Derived.ProofKit
import Derived.OpenShut
import Derived.ChangeOld
import Derived.Deep.SlicePairs
import Derived.Deep.RegionHeld
import Derived.Test.YtcgpgflnihjpiadThree4
namespace Go.Proofs.Ytcgpgflnihjpiad
open Go.RowKit Go.Maps

/-- What the chunks of level 0 of a right tree are. -/
def Gd (G : List (List (Int × Int))) : Prop := M.Ok G.flatten ∧ G.flatten.length ≤ 40 ∧ G.length ≤ 40 ∧ ∀ c ∈ G, c ≠ []
theorem gd_of {T : List (List (List (Int × Int)))} (h : treeE T = 0) : Gd (ground T) := by
  obtain ⟨h1, h2⟩ := treeE_ok h
  have hz := (M.chk_zero _).1 h1
  obtain ⟨_, _, _, hL, _, _⟩ := build_like (flat T) h1
  rw [← h2] at hL
  refine ⟨hz.2, hz.1, ?_, ?_⟩
  · by_cases hT : 0 < T.length
    · exact (hL (ground T) (getD_memT T [] 0 hT)).1
    · have : T = [] := List.eq_nil_of_length_eq_zero (by omega)
      subst this; simp [ground]
  · intro c hc
    by_cases hT : 0 < T.length
    · exact ((hL (ground T) (getD_memT T [] 0 hT)).2 c hc).1
    · have : T = [] := List.eq_nil_of_length_eq_zero (by omega)
      subst this; simp [ground] at hc
theorem Gd.chunk {G : List (List (Int × Int))} (h : Gd G) {c : List (Int × Int)} (hc : c ∈ G) : c.length ≤ 40 := by
  have := (List.sublist_flatten_of_mem hc).length_le
  have := h.2.1
  omega

theorem dground_any (a : Option Addr) (n cap : Nat) (T : List (List (List (Int × Int)))) (w0 w : World) (h : TvS w0 a n cap T) (hb : Below w0.heap.size w0 w) :
    Calls Try.prog 60 #[.slice a n cap] w fun e w' => ∃ a' n' c', e = .returned (.slice a' n' c') ∧ LvS w0 a' n' c' (ground T) ∧ w' = w := by
  by_cases hn : n = 0
  · subst hn
    have hT : T = [] := List.eq_nil_of_length_eq_zero h.1.1
    subst hT
    go_enter Try.func60, Try.ntmps60
    go_wp2
    go_ret
    exact ⟨none, 0, 0, rfl, ⟨⟨rfl, Or.inl rfl⟩, Nat.le_refl _, by simp [maxLen], fun _ => ⟨rfl, rfl⟩⟩, rfl⟩
  · obtain ⟨b, off, rfl, hB, hc⟩ := h.1.at (by omega)
    obtain ⟨a', n', c', q1, s1⟩ := hc 0 (by omega)
    have hnb : ((n : Int) == 0) = false := by simp; omega
    have hnp : (0 : Int) < (n : Int) := by omega
    have q2 : w.cell? ⟨b, off, none⟩ = some (.slice a' n' c') := (hb.cell (p := ⟨b, off, none⟩) hB).trans q1
    have HS : Hid (LvS w0 a' n' c' (ground T)) := s1
    clear h hc q1 s1 hb
    go_enter Try.func60, Try.ntmps60
    go_wp2
    go_ret
    exact ⟨a', n', c', rfl, HS.out, rfl⟩

theorem dlast_any (a : Option Addr) (n cap : Nat) (l : List (Int × Int)) (w : World) (h : Rd w a n l) (hn0 : l ≠ []) (hn : n ≤ 1000) :
    Calls Try.prog 61 #[.slice a n cap] w fun e w' => e = .returned (.int .i64 (M.lk l)) ∧ w' = w := by
  rcases h.cases with ⟨rfl, rfl⟩ | ⟨b, off, rfl, hp, hl, hB, hc⟩
  · exact absurd rfl hn0
  · obtain ⟨m, rfl⟩ : ∃ m, n = m + 1 := ⟨n - 1, by omega⟩
    have c0 := (hc m (by omega)).1
    have e : M.lk l = (l.getD m (0, 0)).1 := by unfold M.lk; rw [hl]; rfl
    rw [e]
    obtain ⟨x, hx⟩ : ∃ x, x = (l.getD m (0, 0)).1 := ⟨_, rfl⟩
    rw [← hx] at c0 ⊢
    have hm1 : (m : Int) < (m : Int) + 1 := by omega
    have hmw : IntKind.i64.wrap (m : Int) = (m : Int) := by rw [IntKind.wrap_i64]; omega
    have hmw2 : IntKind.i64.wrap ((m : Int) + 1 - 1) = (m : Int) := by rw [IntKind.wrap_i64]; omega
    have hmw3 : (m : Int) < ((m + 1 : Nat) : Int) := by omega
    have hm0 : (0 : Int) ≤ (m : Int) := by omega
    clear hc hx e hl h hn0
    go_enter Try.func61, Try.ntmps61
    go_wp2
    go_ret
    exact ⟨rfl, rfl⟩

theorem zeroRows (w : World) : (zeroValue 22).run Try.prog w = .ok (.slice none 0 0) w := by kernel_rfl
/-- Of the chunks P each one's last key has that chunk. -/
def EM (w : World) (f : Int → Option Value) (P : List (List (Int × Int))) : Prop :=
  (∀ x v, f x = some v → ∃ a n c ch, v = .slice a n c ∧ Sl w a n c ch ∧ ch ∈ P ∧ M.lk ch = x) ∧ ∀ ch ∈ P, (f (M.lk ch)).isSome = true
theorem EM.nil (w : World) : EM w (fun _ => none) [] := ⟨fun x v h => by simp at h, fun ch h => by simp at h⟩
theorem EM.more {w : World} {f : Int → Option Value} {P : List (List (Int × Int))} (h : EM w f P) {a : Option Addr} {n c : Nat} {ch : List (Int × Int)} (hs : Sl w a n c ch) : EM w (upd f (M.lk ch) (.slice a n c)) (P ++ [ch]) := by
  refine ⟨fun x v hx => ?_, fun q hq => ?_⟩
  · by_cases e : x = M.lk ch
    · subst e
      rw [upd_same] at hx
      cases hx
      exact ⟨a, n, c, ch, rfl, hs, by simp, rfl⟩
    · rw [upd_other f _ x _ e] at hx
      obtain ⟨a', n', c', ch', r1, r2, r3, r4⟩ := h.1 x v hx
      exact ⟨a', n', c', ch', r1, r2, by simp [r3], r4⟩
  · by_cases e : M.lk q = M.lk ch
    · rw [e, upd_same]; rfl
    · rw [upd_other f _ _ _ e]
      rcases List.mem_append.1 hq with hq | hq
      · exact h.2 q hq
      · have : q = ch := by simpa using hq
        exact absurd (by rw [this]) e

theorem keepOwn {w w' : World} {base : Nat} {v : Value} {l : List (Int × Int)} (h : Own w base v l) (hb : Below w.heap.size w w') : Own w' base v l := by
  obtain ⟨h1, h2⟩ := h
  refine ⟨h1, ?_⟩
  rcases h2 with h2 | ⟨g, cap, cur, hv, hg, hh, r⟩
  · exact Or.inl h2
  · exact Or.inr ⟨g, cap, cur, hv, hg, (hb.block g (Array.getElem?_eq_some_iff.1 hh).1).trans hh, r⟩
theorem monoOwn {w : World} {base base' : Nat} {v : Value} {l : List (Int × Int)} (h : Own w base v l) (hb : base' ≤ base) : Own w base' v l := by
  obtain ⟨h1, h2⟩ := h
  refine ⟨h1, ?_⟩
  rcases h2 with h2 | ⟨g, cap, cur, hv, hg, r⟩
  · exact Or.inl h2
  · exact Or.inr ⟨g, cap, cur, hv, Nat.le_trans hb hg, r⟩
theorem LvS.cells {w : World} {a : Option Addr} {n c : Nat} {LL : List (List (Int × Int))} (h : LvS w a n c LL) (hn : 0 < n) : ∃ b off, a = some ⟨b, off, none⟩ ∧ b < w.heap.size ∧ ∀ i, i < n → ∃ a' n' c', w.cell? ⟨b, off + i, none⟩ = some (.slice a' n' c') ∧ Sl w a' n' c' (LL.getD i []) := by
  rcases h.1.2 with h0 | h0
  · omega
  · exact h0

set_option maxRecDepth 100000 in
set_option maxHeartbeats 16000000 in
theorem apart_any (a1 a2 : Option Addr) (n1 n2 c1 c2 : Nat) (T U : List (List (List (Int × Int)))) (w : World) (h1 : TvS w a1 n1 c1 T) (h2 : TvS w a2 n2 c2 U) (g1 : Gd (ground T)) (g2 : Gd (ground U)) :
    Calls Try.prog 35 #[.slice a1 n1 c1, .slice a2 n2 c2] w fun e w' => ∃ v, e = .returned v ∧ Own w' w.heap.size v (M.apt (ground T) (ground U)) ∧ Below w.heap.size w w' := by
  obtain ⟨W0, hW0⟩ : ∃ W0, W0 = w.alloc (.map #[] 0) := ⟨_, rfl⟩
  have b0 : Below w.heap.size w W0 := by rw [hW0]; exact (Below.refl _ _).alloc (Nat.le_refl _) _
  have HM0 : Aside (Mp W0 w.heap.size 0 (fun _ => none)) := by rw [hW0]; exact Mp.made w
  have HG2 := dground_any a2 n2 c2 U w W0 h2 b0
  have HGG2 : Hid (Calls Try.prog 60 #[.slice a2 n2 c2] W0 fun e w' => ∃ a' n' c', e = .returned (.slice a' n' c') ∧ LvS w a' n' c' (ground U) ∧ w' = W0) := HG2
  have HG1 : Hid (∀ W, Below w.heap.size w W → Calls Try.prog 60 #[.slice a1 n1 c1] W fun e w' => ∃ a' n' c', e = .returned (.slice a' n' c') ∧ LvS w a' n' c' (ground T) ∧ w' = W) := fun W hW => dground_any a1 n1 c1 T w W h1 hW
  obtain ⟨G, hG⟩ : ∃ G, G = ground T := ⟨_, rfl⟩
  obtain ⟨H, hH⟩ : ∃ H, H = ground U := ⟨_, rfl⟩
  rw [← hG] at g1 HG1 ⊢
  rw [← hH] at g2 HGG2 ⊢
  have D1 : Aside (Gd G) := g1
  have D2 : Aside (Gd H) := g2
  have HW0 : Hid (W0 = w.alloc (.map #[] 0)) := hW0
  have hmm := @run_makeMap Try.prog
  clear HG2 h1 h2 hG hH g1 g2 hW0
  go_enter Try.func35, Try.ntmps35
  go_wp2_with fail
  rw [← HW0.out]
  refine HGG2.out.mono ?_
  rintro e w1 ⟨ha, hn, hc, rfl, hlv, hw1⟩
  subst hw1
  have HLv : Aside (LvS w ha hn hc H) := hlv
  have hhn : hn ≤ 40 := by rw [← hlv.1.1]; exact D2.out.2.2.1
  clear hlv HGG2 HW0
  go_wp2
  go_loopg [15] hn (fun g ix wr => ∃ (i c : Nat) (f : Int → Option Value), i + g = hn ∧ ix = .int .i64 i ∧ c ≤ i ∧ Aside (Mp wr w.heap.size c f) ∧ Aside (EM w f (H.take i)) ∧ Below w.heap.size w wr)
  case atStart => exact ⟨0, 0, fun _ => none, by omega, rfl, Nat.le_refl _, HM0, EM.nil _, b0⟩
  case round =>
    obtain ⟨i, c, f, hig, rfl, hci, HM, HE, hbel⟩ := hrel
    by_cases hlt : i < hn
    · have hii : (i : Int) < (hn : Int) := by omega
      obtain ⟨hb, ho, rfl, hhB, hhc⟩ := HLv.out.cells (by omega)
      obtain ⟨xa, xn, xc, q1, s1⟩ := hhc i hlt
      obtain ⟨ch, hch⟩ : ∃ ch, ch = H.getD i [] := ⟨_, rfl⟩
      rw [← hch] at s1
      have hiH : i < H.length := by rw [HLv.out.1.1]; exact hlt
      have hmem : ch ∈ H := by rw [hch]; exact getD_memT H [] i hiH
      have hne := D2.out.2.2.2 ch hmem
      have hxn : xn ≤ 40 := by rw [← s1.1.1]; exact D2.out.chunk hmem
      have hr := M.lk_range D2.out.1 D2.out.2.2.2 hmem
      have cx : wr.cell? ⟨hb, ho + i, none⟩ = some (.slice xa xn xc) := (hbel.cell (p := ⟨hb, ho + i, none⟩) hhB).trans q1
      have K1 := dlast_any xa xn xc ch wr (s1.1.below hbel (Nat.le_refl _)) hne (by omega)
      obtain ⟨ky, hky⟩ : ∃ ky, ky = M.lk ch := ⟨_, rfl⟩
      rw [← hky] at K1 hr
      have KK : Hid (Calls Try.prog 61 #[.slice xa xn xc] wr fun e w' => e = .returned (.int .i64 ky) ∧ w' = wr) := K1
      have HE2 : Aside (EM w (upd f ky (.slice xa xn xc)) (H.take (i + 1))) := by unfold Aside; rw [take_snoc H [] i hiH, ← hch, hky]; exact HE.out.more s1
      have hr0 := hr.1
      have hr1 := hr.2
      clear K1 hhc q1 s1 hch hmem hne hr hky hiH
      go_wp2_with fail
      refine KK.out.mono ?_
      rintro e w2 ⟨rfl, hw2⟩
      subst hw2
      go_wp2_with (at_mapUpdate; refine wp_mp_set rfl _ _ _ 104 22 rfl Try.underlying104 w.heap.size c f rfl HM.out (by omega) ky (.slice xa xn xc) rfl rfl (by omega) (by omega) ?_)
      intro w3 hmp hgr
      have HM3 : Aside (Mp w3 w.heap.size (c + 1) (upd f ky (.slice xa xn xc))) := hmp
      have hb3 : Below w.heap.size w w3 := hbel.grown hgr hbel.size (fun q hq => by cases hq; exact Nat.le_refl _)
      clear hmp hgr
      go_wp2
      go_roundg (gk - 1)
      case measure => omega
      case rel => exact ⟨i + 1, c + 1, _, by omega, by go_num, by omega, HM3, HE2, hb3⟩
    · have eH : H.take i = H := List.take_of_length_le (by rw [HLv.out.1.1]; omega)
      have HE2 : Aside (EM w f H) := by have h := HE.out; rw [eH] at h; exact h
      have hMlt := HM.out.lt
      obtain ⟨w3, hw3⟩ : ∃ w3, w3 = wr := ⟨_, rfl⟩
      rw [← hw3] at HM hbel hMlt
      have HW3 : Hid (w3 = wr) := hw3
      have hs3 := hbel.size
      clear eH HE hw3 HM0
      go_wp2_with fail
      rw [← HW3.out]
      refine (HG1.out w3 hbel).mono ?_
      rintro e w4 ⟨ga, gn, gc, rfl, glv, hw4⟩
      subst hw4
      have HGv : Aside (LvS w ga gn gc G) := glv
      have hgn : gn ≤ 40 := by rw [← glv.1.1]; exact D1.out.2.2.1
      clear glv HG1 HW3
      go_wp2
      go_loopg [8, 27] gn (fun g v ix ws => ∃ j : Nat, j + g = gn ∧ ix = .int .i64 j ∧ Aside (Own ws w4.heap.size v (M.apt (G.take j) H)) ∧ Below w4.heap.size w4 ws)
      case atStart => exact ⟨0, by omega, rfl, World.ownsRow_nil _ _ _ _, Below.refl _ _⟩
      case round =>
        obtain ⟨j, hjg, rfl, HO, hb5⟩ := hrel
        have hbw : Below w.heap.size w wr := hbel.trans (hb5.mono hs3)
        by_cases hjl : j < gn
        · have hji : (j : Int) < (gn : Int) := by omega
          obtain ⟨gb, go, rfl, hgB, hgc⟩ := HGv.out.cells (by omega)
          obtain ⟨xa, xn, xc, q1, s1⟩ := hgc j hjl
          obtain ⟨ch, hch⟩ : ∃ ch, ch = G.getD j [] := ⟨_, rfl⟩
          rw [← hch] at s1
          have hjG : j < G.length := by rw [HGv.out.1.1]; exact hjl
          have hmem : ch ∈ G := by rw [hch]; exact getD_memT G [] j hjG
          have hne := D1.out.2.2.2 ch hmem
          have hxn : xn ≤ 40 := by rw [← s1.1.1]; exact D1.out.chunk hmem
          have hr := M.lk_range D1.out.1 D1.out.2.2.2 hmem
          have cx : wr.cell? ⟨gb, go + j, none⟩ = some (.slice xa xn xc) := (hbw.cell (p := ⟨gb, go + j, none⟩) hgB).trans q1
          have rx := s1.1.below hbw (Nat.le_refl _)
          have K1 := dlast_any xa xn xc ch wr rx hne (by omega)
          obtain ⟨ky, hky⟩ : ∃ ky, ky = M.lk ch := ⟨_, rfl⟩
          rw [← hky] at K1 hr
          have KK : Hid (Calls Try.prog 61 #[.slice xa xn xc] wr fun e w' => e = .returned (.int .i64 ky) ∧ w' = wr) := K1
          have HMr : Aside (Mp wr w.heap.size c f) := HM.out.below hb5 hMlt
          -- what the map has there
          obtain ⟨ua, un, uc, ul, hu, hul, hiff⟩ : ∃ ua un uc ul, (f ky).getD (.slice none 0 0) = .slice ua un uc ∧ Rd wr ua un ul ∧ (ch = ul ↔ ch ∈ H) := by
            cases hf : f ky with
            | none =>
              refine ⟨none, 0, 0, [], rfl, ⟨rfl, Or.inl rfl⟩, ⟨fun e => absurd e hne, fun hm => ?_⟩⟩
              have := HE2.out.2 ch hm
              rw [← hky, hf] at this
              simp at this
            | some v =>
              obtain ⟨ua, un, uc, ul, rfl, hs, hm, hl⟩ := HE2.out.1 ky v hf
              refine ⟨ua, un, uc, ul, rfl, hs.1.below hbw (Nat.le_refl _), ⟨fun e => by rw [e]; exact hm, fun hm2 => ?_⟩⟩
              exact M.lk_inj D2.out.1.2 D2.out.2.2.2 hm2 hm (by rw [← hky]; exact hl.symm)
          have KE := equal_any xa ua xn un xc uc ch ul wr rx hul (by omega)
          obtain ⟨t, ht⟩ : ∃ t, t = decide (ch = ul) := ⟨_, rfl⟩
          rw [← ht] at KE
          have KKE : Hid (Calls Try.prog 62 #[.slice xa xn xc, .slice ua un uc] wr fun e w' => e = .returned (.bool t) ∧ Below wr.heap.size wr w') := KE
          have AT := M.apt_take G H j hjG
          rw [← hch] at AT
          have HAT : Aside (M.apt (G.take (j + 1)) H = M.apt (G.take j) H ++ if ch ∈ H then [] else ch) := AT
          have HU : Aside ((f ky).getD (.slice none 0 0) = .slice ua un uc) := hu
          have HTt : Aside (t = decide (ch = ul)) := ht
          have HIf : Aside (ch = ul ↔ ch ∈ H) := hiff
          have HRx : Aside (Rd w xa xn ch) := s1.1
          have HNx : Aside (xa = none → xn = 0 ∧ xc = 0) := s1.2.2.2
          have hlen : (M.apt (G.take j) H).length ≤ 40 := by
            have e1 := M.apt_len (G.take j) H
            have e2 := flat_le G j
            have e3 := D1.out.2.1
            omega
          have HLe : Aside ((M.apt (G.take j) H).length + xn ≤ 1000000) := by unfold Aside; omega
          have hr0 := hr.1
          have hr1 := hr.2
          clear K1 KE hgc q1 s1 hch hmem hne hr hky hjG rx hu hul hiff ht AT hlen
          go_wp2_with fail
          refine KK.out.mono ?_
          rintro e w5 ⟨rfl, hw5⟩
          subst hw5
          go_wp2_with (at_lookup; refine wp_mp_get rfl _ _ 104 22 rfl Try.underlying104 _ (zeroRows _) w.heap.size c f rfl HMr.out ky _ HU.out rfl (by omega) (by omega) ?_)
          refine KKE.out.mono ?_
          rintro e w6 ⟨rfl, hb6⟩
          have hb7 : Below w4.heap.size w4 w6 := hb5.trans (hb6.mono hb5.size)
          have HO6 : Aside (Own w6 w4.heap.size u8 (M.apt (G.take j) H)) := keepOwn HO.out hb6
          have hbw6 : Below w.heap.size w w6 := hbw.trans (hb6.mono hbw.size)
          have hsz6 := hb7.size
          clear hb6 KKE KK HO
          cases t with
          | true =>
            have hin : ch ∈ H := HIf.out.1 (of_decide_eq_true HTt.out.symm)
            have HO7 : Aside (Own w6 w4.heap.size u8 (M.apt (G.take (j + 1)) H)) := by unfold Aside; rw [HAT.out, if_pos hin, List.append_nil]; exact HO6.out
            clear hin
            go_wp2
            go_roundg (gk - 1)
            case measure => omega
            case rel => exact ⟨j + 1, by omega, by go_num, HO7, hb7⟩
          | false =>
            have hin : ch ∉ H := fun h => of_decide_eq_false HTt.out.symm (HIf.out.2 h)
            have HAT2 : Aside (M.apt (G.take (j + 1)) H = M.apt (G.take j) H ++ ch) := by unfold Aside; rw [HAT.out, if_neg hin]
            have HR6 : Aside (Rd w6 xa xn ch) := HRx.out.below hbw6 (Nat.le_refl _)
            clear hin
            go_wp2_with (at_builtin; refine append_rd rfl _ _ rfl w4.heap.size _ (M.apt (G.take j) H) rfl HO6.out xa xn xc ch rfl HR6.out HNx.out HLe.out (by omega) ?_)
            intro v' w7 ho' hb8
            have HO7 : Aside (Own w7 w4.heap.size v' (M.apt (G.take (j + 1)) H)) := by unfold Aside; rw [HAT2.out]; exact ho'
            have hb9 : Below w4.heap.size w4 w7 := hb7.trans hb8
            clear ho' hb8
            go_wp2
            go_roundg (gk - 1)
            case measure => omega
            case rel => exact ⟨j + 1, by omega, by go_num, HO7, hb9⟩
        · have eG : G.take j = G := List.take_of_length_le (by rw [HGv.out.1.1]; omega)
          have HO7 : Aside (Own wr w4.heap.size u8 (M.apt G H)) := by have h := HO.out; rw [eG] at h; exact h
          clear eG
          go_wp2
          go_ret
          exact ⟨_, rfl, monoOwn HO7.out hs3, hbw⟩
end Go.Proofs.Ytcgpgflnihjpiad

namespace Go.Proofs.Ytcgpgflnihjpiad
open Go.RowKit Go.Maps

/-- What the map has of two lists of rows. -/
def fm (l1 l2 : List (Int × Int)) : Int → Option Value := fun x => if (M.has l1 x || M.has l2 x) = true then some (cval (x, M.find x l1, M.find x l2)) else none
theorem fm_nil : fm [] [] = fun _ => none := by funext x; simp [fm, M.has]
theorem fm_step1 (L : List (Int × Int)) (r : Int × Int) (h : M.has L r.1 = false) : upd (fm L []) r.1 (cval (r.1, r.2, -1)) = fm (L ++ [r]) [] := by
  funext x
  by_cases e : x = r.1
  · subst e
    rw [upd_same]
    unfold fm
    rw [M.has_snoc, M.find_snoc, h]
    simp [M.find]
  · rw [upd_other _ _ _ _ e]
    have e2 : (r.1 == x) = false := by simp; exact fun h => e h.symm
    unfold fm
    rw [M.has_snoc, M.find_snoc, e2]
    cases hx : M.has L x
    · simp [M.has]
    · simp
theorem fm_step2 (l1 L : List (Int × Int)) (r : Int × Int) (h : M.has L r.1 = false) : upd (fm l1 L) r.1 (cval (r.1, M.find r.1 l1, r.2)) = fm l1 (L ++ [r]) := by
  funext x
  by_cases e : x = r.1
  · subst e
    rw [upd_same]
    unfold fm
    rw [M.has_snoc, M.find_snoc, h]
    simp
  · rw [upd_other _ _ _ _ e]
    have e2 : (r.1 == x) = false := by simp; exact fun h => e h.symm
    unfold fm
    rw [M.has_snoc, M.find_snoc, e2]
    cases hx : M.has L x
    · have e3 : M.find x L = -1 := M.find_has_no hx
      have e4 : ¬ r.1 = x := fun h => e h.symm
      rw [e3]
      simp [e4]
    · simp
theorem take_has {l : List (Int × Int)} (ok : M.Ok l) (i : Nat) (h : i < l.length) : M.has (l.take i) (l.getD i (0, 0)).1 = false := by
  rw [M.has_no]
  intro r hr e
  obtain ⟨j, hj, hjl, rfl⟩ := M.mem_take hr
  have := ok.asc j i hj h
  omega
theorem take_row (l : List (Int × Int)) (i : Nat) (h : i < l.length) : l.take (i + 1) = l.take i ++ [l.getD i (0, 0)] := by
  rw [List.take_succ_eq_append_getElem h]; simp [List.getD, h]
theorem fm_dom {l1 l2 : List (Int × Int)} (o1 : M.Ok l1) (o2 : M.Ok l2) (x : Int) (h : (fm l1 l2 x).isSome = true) : 0 ≤ x ∧ x < ((100 : Nat) : Int) := by
  unfold fm at h
  split at h
  · rename_i h2
    rw [Bool.or_eq_true] at h2
    rcases h2 with h2 | h2
    · obtain ⟨r, hr, rfl⟩ := (M.has_iff _ _).1 h2
      have := o1.1 r hr; omega
    · obtain ⟨r, hr, rfl⟩ := (M.has_iff _ _).1 h2
      have := o2.1 r hr; omega
  · simp at h
theorem fm_some (l1 l2 : List (Int × Int)) (k : Nat) (h : M.find (k : Int) l1 ≠ M.find (k : Int) l2) : (fm l1 l2 (k : Int)).isSome = true := by
  unfold fm
  cases h1 : M.has l1 (k : Int)
  · cases h2 : M.has l2 (k : Int)
    · exact absurd (by rw [M.find_has_no h1, M.find_has_no h2]) h
    · rfl
  · rfl
theorem fm_at {l1 l2 : List (Int × Int)} {x : Int} (h : (fm l1 l2 x).isSome = true) : fm l1 l2 x = some (cval (x, M.find x l1, M.find x l2)) := by
  unfold fm at h ⊢
  split
  · rfl
  · rename_i h2; rw [if_neg h2] at h; simp at h

theorem Rd.but {w w' : World} {a : Option Addr} {n B m : Nat} {l : List (Int × Int)} (h : Rd w a n l) (hk : KeepBut B m w w') (ha : ∀ b off, a = some ⟨b, off, none⟩ → 0 < n → b ≠ B ∧ b < m) : Rd w' a n l := by
  obtain ⟨h1, h2⟩ := h
  refine ⟨h1, ?_⟩
  by_cases hn : n = 0
  · exact Or.inl hn
  · rcases h2 with h2 | ⟨b, off, e, hlt, hc⟩
    · exact Or.inl h2
    · obtain ⟨hb1, hb2⟩ := ha b off e (by omega)
      refine Or.inr ⟨b, off, e, Nat.lt_of_lt_of_le hlt hk.1.size, fun i hi => ?_⟩
      rw [hk.cell (p := ⟨b, off + i * 2, none⟩) hb1 hb2, hk.cell (p := ⟨b, off + i * 2 + 1, none⟩) hb1 hb2]
      exact hc i hi
theorem Own.base {w : World} {base : Nat} {v : Value} {l : List (Int × Int)} (h : Own w base v l) : ∃ a cap, v = .slice a l.length cap ∧ Rd w a l.length l ∧ l.length ≤ cap ∧ cap ≤ maxLen ∧ ∀ b off, a = some ⟨b, off, none⟩ → base ≤ b ∧ b < w.heap.size := by
  obtain ⟨a, cap, rfl, r1, r2, r3, _⟩ := h.rd
  refine ⟨a, cap, rfl, r1, r2, r3, fun b off e => ?_⟩
  subst e
  exact World.ownsRow.lt h b rfl

theorem dof_bad1 (a1 a2 : Option Addr) (n1 n2 c1 c2 : Nat) (T : List (List (List (Int × Int)))) (w : World) (h1 : TvS w a1 n1 c1 T) (g1 : Big T) (hz : treeE T ≠ 0) :
    Calls Try.prog 11 #[.slice a1 n1 c1, .slice a2 n2 c2] w fun e w' => e = .returned (.tuple #[.slice none 0 0, .int .i64 (treeE T)]) ∧ Below w.heap.size w w' := by
  have H := tcheck_any a1 n1 c1 T w h1 g1
  obtain ⟨c, hc⟩ : ∃ c, c = treeE T := ⟨_, rfl⟩
  rw [← hc] at H hz ⊢
  have hne : (c != 0) = true := by simp [hz]
  have HH : Hid (Calls Try.prog 34 #[.slice a1 n1 c1] w fun e w' => e = .returned (.int .i64 c) ∧ Below w.heap.size w w') := H
  clear H hz hc h1
  go_enter Try.func11, Try.ntmps11
  go_wp2_with fail
  refine HH.out.mono ?_
  rintro e w1 ⟨rfl, hb1⟩
  go_wp2
  go_ret2
  exact ⟨rfl, hb1⟩
theorem dof_bad2 (a1 a2 : Option Addr) (n1 n2 c1 c2 : Nat) (T U : List (List (List (Int × Int)))) (w : World) (h1 : TvS w a1 n1 c1 T) (g1 : Big T) (h2 : TvS w a2 n2 c2 U) (g2 : Big U) (hz1 : treeE T = 0) (hz : treeE U ≠ 0) :
    Calls Try.prog 11 #[.slice a1 n1 c1, .slice a2 n2 c2] w fun e w' => e = .returned (.tuple #[.slice none 0 0, .int .i64 (treeE U)]) ∧ Below w.heap.size w w' := by
  have H := tcheck_any a1 n1 c1 T w h1 g1
  rw [hz1] at H
  have HH : Hid (Calls Try.prog 34 #[.slice a1 n1 c1] w fun e w' => e = .returned (.int .i64 0) ∧ Below w.heap.size w w') := H
  obtain ⟨c, hc⟩ : ∃ c, c = treeE U := ⟨_, rfl⟩
  have K : Hid (∀ W, Below w.heap.size w W → Calls Try.prog 34 #[.slice a2 n2 c2] W fun e w' => e = .returned (.int .i64 c) ∧ Below W.heap.size W w') := fun W hW => by rw [hc]; exact tcheck_any a2 n2 c2 U W (h2.below hW) g2
  rw [← hc] at hz ⊢
  have hne : (c != 0) = true := by simp [hz]
  clear H hz hc h1 h2
  go_enter Try.func11, Try.ntmps11
  go_wp2_with fail
  refine HH.out.mono ?_
  rintro e w1 ⟨rfl, hb1⟩
  go_wp2_with fail
  refine (K.out _ hb1).mono ?_
  rintro e w2 ⟨rfl, hb2⟩
  go_wp2
  go_ret2
  exact ⟨rfl, hb1.trans (hb2.mono hb1.size)⟩

theorem zeroChg (w : World) : (zeroValue 38).run Try.prog w = .ok (.agg #[.int .i64 0, .int .i64 0, .int .i64 0]) w := by kernel_rfl
theorem filterMap_snoc (ks : List Int) (f : Int → Option M.Chg) (i : Nat) (h : i < ks.length) : (ks.take (i + 1)).filterMap f = (ks.take i).filterMap f ++ (f (ks.getD i 0)).toList := by
  rw [List.take_succ_eq_append_getElem h, List.filterMap_append]
  have e : ks.getD i 0 = ks[i] := by simp [List.getD, h]
  rw [e]
  cases hf : f ks[i] <;> simp [hf]

set_option maxRecDepth 100000 in
set_option maxHeartbeats 32000000 in
theorem dof_good (a1 a2 : Option Addr) (n1 n2 c1 c2 : Nat) (T U : List (List (List (Int × Int)))) (w : World) (h1 : TvS w a1 n1 c1 T) (t1 : Big T) (h2 : TvS w a2 n2 c2 U) (t2 : Big U) (z1 : treeE T = 0) (z2 : treeE U = 0) :
    Calls Try.prog 11 #[.slice a1 n1 c1, .slice a2 n2 c2] w fun e w' => ∃ v, e = .returned (.tuple #[v, .int .i64 0]) ∧ OwnC w' w.heap.size v (M.dif (flat T) (flat U)) ∧ Below w.heap.size w w' := by
  have K1 : Hid (Calls Try.prog 34 #[.slice a1 n1 c1] w fun e w' => e = .returned (.int .i64 0) ∧ Below w.heap.size w w') := by have := tcheck_any a1 n1 c1 T w h1 t1; rwa [z1] at this
  have K2 : Hid (∀ W, Below w.heap.size w W → Calls Try.prog 34 #[.slice a2 n2 c2] W fun e w' => e = .returned (.int .i64 0) ∧ Below W.heap.size W w') := fun W hW => by have := tcheck_any a2 n2 c2 U W (h2.below hW) t2; rwa [z2] at this
  have g1 := gd_of z1
  have g2 := gd_of z2
  obtain ⟨L1, hL1⟩ : ∃ L1, L1 = M.apt (ground T) (ground U) := ⟨_, rfl⟩
  obtain ⟨L2, hL2⟩ : ∃ L2, L2 = M.apt (ground U) (ground T) := ⟨_, rfl⟩
  have A1 : Hid (∀ W, Below w.heap.size w W → Calls Try.prog 35 #[.slice a1 n1 c1, .slice a2 n2 c2] W fun e w' => ∃ v, e = .returned v ∧ Own w' W.heap.size v L1 ∧ Below W.heap.size W w') := fun W hW => by rw [hL1]; exact apart_any a1 a2 n1 n2 c1 c2 T U W (h1.below hW) (h2.below hW) g1 g2
  have A2 : Hid (∀ W, Below w.heap.size w W → Calls Try.prog 35 #[.slice a2 n2 c2, .slice a1 n1 c1] W fun e w' => ∃ v, e = .returned v ∧ Own w' W.heap.size v L2 ∧ Below W.heap.size W w') := fun W hW => by rw [hL2]; exact apart_any a2 a1 n2 n1 c2 c1 U T W (h2.below hW) (h1.below hW) g2 g1
  have O1 : Aside (M.Ok L1) := by rw [hL1]; exact M.apt_ok g1.1
  have O2 : Aside (M.Ok L2) := by rw [hL2]; exact M.apt_ok g2.1
  have l1 : L1.length ≤ 40 := by rw [hL1]; exact Nat.le_trans (M.apt_len _ _) g1.2.1
  have l2 : L2.length ≤ 40 := by rw [hL2]; exact Nat.le_trans (M.apt_len _ _) g2.2.1
  have HD : Hid ((M.sel (fun k => (fm L1 L2 (k : Int)).isSome) 100).filterMap (M.tellC L1 L2) = M.dif (flat T) (flat U)) := by
    unfold Hid M.dif
    refine M.sel_tell _ 100 (fun k => ?_) (fun k hk => fm_some L1 L2 k hk)
    have := M.apt_find g1.1 g2.1 (k : Int)
    rw [← hL1, ← hL2] at this
    exact this
  obtain ⟨DD, hDD⟩ : ∃ DD, DD = M.dif (flat T) (flat U) := ⟨_, rfl⟩
  rw [← hDD] at HD ⊢
  have hmm := @run_makeMap Try.prog
  clear h1 h2 z1 z2 g1 g2 hL1 hL2 t1 t2 hDD
  go_enter Try.func11, Try.ntmps11
  go_wp2_with fail
  refine K1.out.mono ?_
  rintro e w1 ⟨rfl, hb1⟩
  go_wp2_with fail
  refine (K2.out _ hb1).mono ?_
  rintro e w2 ⟨rfl, hb2⟩
  have q2 := hb1.trans (hb2.mono hb1.size)
  obtain ⟨W3, hW3⟩ : ∃ W3, W3 = w2.alloc (.map #[] 0) := ⟨_, rfl⟩
  obtain ⟨B, hB⟩ : ∃ B, B = w2.heap.size := ⟨_, rfl⟩
  have b3 : Below w2.heap.size w2 W3 := by rw [hW3]; exact (Below.refl _ _).alloc (Nat.le_refl _) _
  have q3 : Below w.heap.size w W3 := q2.trans (b3.mono q2.size)
  have HM3 : Aside (Mp W3 B 0 (fm (L1.take 0) [])) := by rw [hW3, hB, List.take_zero, fm_nil]; exact Mp.made w2
  have hBs : W3.heap.size = B + 1 := by rw [hW3, hB]; simp
  have hwB : w.heap.size ≤ B := by rw [hB]; exact q2.size
  have HW3 : Hid (W3 = w2.alloc (.map #[] 0)) := hW3
  have HBe : Hid (B = w2.heap.size) := hB
  clear hW3 hB hb1 hb2 K1 K2 q2 b3
  go_wp2_with fail
  rw [← HW3.out, ← HBe.out]
  refine (A1.out _ q3).mono ?_
  rintro e w4 ⟨v1, rfl, ho1, hb4⟩
  obtain ⟨xa, xc, rfl, rx, _, _, hxb⟩ := ho1.base
  have HM4 : Aside (Mp w4 B 0 (fm (L1.take 0) [])) := HM3.out.below hb4 (by omega)
  have HX : Aside (Rd w4 xa L1.length L1) := rx
  have HXb : Aside (∀ b off, xa = some ⟨b, off, none⟩ → b ≠ B ∧ b < w4.heap.size) := fun b off e => by have := hxb b off e; exact ⟨by omega, this.2⟩
  have q4 : Below w.heap.size w w4 := q3.trans (hb4.mono q3.size)
  obtain ⟨xn, hxn⟩ : ∃ xn, xn = L1.length := ⟨_, rfl⟩
  rw [← hxn] at HX ⊢
  have HXn : Aside (xn = L1.length) := hxn
  have hxn40 : xn ≤ 40 := by rw [hxn]; exact l1
  have hs4 : B < w4.heap.size := HM4.out.lt
  clear ho1 rx hxb hb4 HM3 A1 q3 hxn hBs
  go_wp2
  go_loopg [34] xn (fun g ix wr => ∃ (i c : Nat), i + g = xn ∧ ix = .int .i64 i ∧ c ≤ i ∧ Aside (Mp wr B c (fm (L1.take i) [])) ∧ KeepBut B w4.heap.size w4 wr)
  case atStart => exact ⟨0, 0, by omega, rfl, Nat.le_refl _, HM4, KeepBut.refl _ _ _⟩
  case round =>
    obtain ⟨i, c, hig, rfl, hci, HM, hkb⟩ := hrel
    have hq : Below w.heap.size w wr := q4.trans (hkb.1.mono hwB)
    by_cases hlt : i < xn
    · have hii : (i : Int) < (xn : Int) := by omega
      have rx := HX.out.but hkb (fun b off e _ => HXb.out b off e)
      obtain ⟨xb, xo, rfl, _, _, hxB, hxc⟩ := rx.cases.resolve_left (fun h => by omega)
      obtain ⟨ky, vy, hkv⟩ : ∃ ky vy, L1.getD i (0, 0) = (ky, vy) := ⟨_, _, rfl⟩
      obtain ⟨k1, k2⟩ := hxc i hlt
      rw [hkv] at k1 k2
      have hiL : i < L1.length := by rw [← HXn.out]; exact hlt
      have hrr := O1.out.1 _ (M.getD_mem L1 i hiL)
      rw [hkv] at hrr
      have hk0 : 0 ≤ ky := hrr.1
      have hk1 : ky ≤ 99 := hrr.2.1
      have hth := take_has O1.out i hiL
      rw [hkv] at hth
      have HSt : Aside (upd (fm (L1.take i) []) ky (cval (ky, vy, -1)) = fm (L1.take (i + 1)) []) := by unfold Aside; rw [take_row L1 i hiL, hkv]; exact fm_step1 (L1.take i) (ky, vy) hth
      obtain ⟨Wa, hWa⟩ : ∃ Wa, Wa = wr.alloc (.cells #[.int .i64 ky, .int .i64 vy] 63) := ⟨_, rfl⟩
      have HMa : Aside (Mp Wa B c (fm (L1.take i) [])) := by rw [hWa]; exact HM.out.alloc _
      have hka : KeepBut B w4.heap.size w4 Wa := hkb.trans (keep_below (by rw [hWa]; exact (Below.refl _ _).alloc (Nat.le_refl _) _) (by have := HM.out.lt; omega) hkb.1.size)
      have p0 : Wa.cell? ⟨wr.heap.size, 0, none⟩ = some (.int .i64 ky) := by rw [hWa]; simp [go_sem]
      have p1 : Wa.cell? ⟨wr.heap.size, 1, none⟩ = some (.int .i64 vy) := by rw [hWa]; simp [go_sem]
      have HWa : Hid (Wa = wr.alloc (.cells #[.int .i64 ky, .int .i64 vy] 63)) := hWa
      clear hxc rx hkv hrr hth hWa hiL
      go_wp2_with (at_mapUpdate; rw [← HWa.out]; refine wp_mp_set rfl _ _ _ 65 38 rfl Try.underlying65 B c (fm (L1.take i) []) rfl HMa.out (by omega) ky (cval (ky, vy, -1)) rfl rfl (by omega) (by omega) ?_)
      intro w5 hmp hgr
      have HM5 : Aside (Mp w5 B (c + 1) (fm (L1.take (i + 1)) [])) := by unfold Aside; rw [← HSt.out]; exact hmp
      have hk5 : KeepBut B w4.heap.size w4 w5 := hka.trans ⟨(Below.refl _ _).grown hgr (by have := HMa.out.lt; omega) (fun q hq => by cases hq; exact Nat.le_refl _), fun q h1 h2 => hgr.block q (by have := hka.1.size; omega) (by simp; omega)⟩
      clear hmp hgr
      go_wp2
      go_roundg (gk - 1)
      case measure => omega
      case rel => exact ⟨i + 1, c + 1, by omega, by go_num, by omega, HM5, hk5⟩
    · have e1 : L1.take i = L1 := List.take_of_length_le (by rw [← HXn.out]; omega)
      have HM5 : Aside (Mp wr B c (fm L1 (L2.take 0))) := by have h := HM.out; rw [e1] at h; exact h
      have hc40 : c ≤ 40 := by omega
      obtain ⟨w5, hw5⟩ : ∃ w5, w5 = wr := ⟨_, rfl⟩
      rw [← hw5] at HM5 hq
      have HW5 : Hid (w5 = wr) := hw5
      have hB5 := HM5.out.lt
      clear e1 HM hkb hw5 HM4 HX HXb hs4 q4
      go_wp2_with fail
      rw [← HW5.out]
      refine (A2.out w5 hq).mono ?_
      rintro e w6 ⟨v2, rfl, ho2, hb6⟩
      obtain ⟨ya, yc, rfl, ry, _, _, hyb⟩ := ho2.base
      have HM6 : Aside (Mp w6 B c (fm L1 (L2.take 0))) := HM5.out.below hb6 hB5
      have HYr : Aside (Rd w6 ya L2.length L2) := ry
      have HYb : Aside (∀ b off, ya = some ⟨b, off, none⟩ → b ≠ B ∧ b < w6.heap.size) := fun b off e => by have := hyb b off e; exact ⟨by omega, this.2⟩
      have q6 : Below w.heap.size w w6 := hq.trans (hb6.mono hq.size)
      obtain ⟨yn, hyn⟩ : ∃ yn, yn = L2.length := ⟨_, rfl⟩
      rw [← hyn] at HYr ⊢
      have HYn : Aside (yn = L2.length) := hyn
      have hyn40 : yn ≤ 40 := by rw [hyn]; exact l2
      clear ho2 ry hyb hb6 HM5 A2 hq hyn HW5 hB5
      go_wp2
      go_loopg [51] yn (fun g ix ws => ∃ (j d : Nat), j + g = yn ∧ ix = .int .i64 j ∧ d ≤ 40 + j ∧ Aside (Mp ws B d (fm L1 (L2.take j))) ∧ KeepBut B w6.heap.size w6 ws)
      case atStart => exact ⟨0, c, by omega, rfl, by omega, HM6, KeepBut.refl _ _ _⟩
      case round =>
        obtain ⟨j, d, hjg, rfl, hdj, HM, hkb⟩ := hrel
        have hq : Below w.heap.size w wr := q6.trans (hkb.1.mono hwB)
        by_cases hjl : j < yn
        · have hji : (j : Int) < (yn : Int) := by omega
          have ry := HYr.out.but hkb (fun b off e _ => HYb.out b off e)
          obtain ⟨yb, yo, rfl, _, _, hyB, hyc⟩ := ry.cases.resolve_left (fun h => by omega)
          obtain ⟨ky, vy, hkv⟩ : ∃ ky vy, L2.getD j (0, 0) = (ky, vy) := ⟨_, _, rfl⟩
          obtain ⟨k1, k2⟩ := hyc j hjl
          rw [hkv] at k1 k2
          have hjL : j < L2.length := by rw [← HYn.out]; exact hjl
          have hrr := O2.out.1 _ (M.getD_mem L2 j hjL)
          rw [hkv] at hrr
          have hk0 : 0 ≤ ky := hrr.1
          have hk1 : ky ≤ 99 := hrr.2.1
          have hth := take_has O2.out j hjL
          rw [hkv] at hth
          obtain ⟨od, hod⟩ : ∃ od, od = M.find ky L1 := ⟨_, rfl⟩
          have HSt : Aside (upd (fm L1 (L2.take j)) ky (cval (ky, od, vy)) = fm L1 (L2.take (j + 1))) := by unfold Aside; rw [take_row L2 j hjL, hkv, hod]; exact fm_step2 L1 (L2.take j) (ky, vy) hth
          obtain ⟨Wa, hWa⟩ : ∃ Wa, Wa = wr.alloc (.cells #[.int .i64 ky, .int .i64 vy] 63) := ⟨_, rfl⟩
          have HMa : Aside (Mp Wa B d (fm L1 (L2.take j))) := by rw [hWa]; exact HM.out.alloc _
          have hka : KeepBut B w6.heap.size w6 Wa := hkb.trans (keep_below (by rw [hWa]; exact (Below.refl _ _).alloc (Nat.le_refl _) _) (by have := HM.out.lt; omega) hkb.1.size)
          have p0 : Wa.cell? ⟨wr.heap.size, 0, none⟩ = some (.int .i64 ky) := by rw [hWa]; simp [go_sem]
          have p1 : Wa.cell? ⟨wr.heap.size, 1, none⟩ = some (.int .i64 vy) := by rw [hWa]; simp [go_sem]
          have hWl : wr.heap.size < Wa.heap.size := by rw [hWa]; simp
          obtain ⟨Wc, hWc⟩ : ∃ Wc, Wc = Wa.alloc (.cells #[.int .i64 ky, .int .i64 od, .int .i64 vy] 38) := ⟨_, rfl⟩
          have HMc : Aside (Mp Wc B d (fm L1 (L2.take j))) := by rw [hWc]; exact HMa.out.alloc _
          have hkc : KeepBut B w6.heap.size w6 Wc := hka.trans (keep_below (by rw [hWc]; exact (Below.refl _ _).alloc (Nat.le_refl _) _) (by have := HMa.out.lt; omega) hka.1.size)
          have HWa : Hid (Wa = wr.alloc (.cells #[.int .i64 ky, .int .i64 vy] 63)) := hWa
          have HWc : Hid (Wc = Wa.alloc (.cells #[.int .i64 ky, .int .i64 od, .int .i64 vy] 38)) := hWc
          have hfx : fm L1 (L2.take j) ky = if M.has L1 ky = true then some (cval (ky, od, -1)) else none := by
            unfold fm
            rw [hth, Bool.or_false, ← hod, M.find_has_no hth]
          by_cases hin : M.has L1 ky = true
          · rw [if_pos hin] at hfx
            have HG : Aside ((fm L1 (L2.take j) ky).getD (.agg #[.int .i64 0, .int .i64 0, .int .i64 0]) = .agg #[.int .i64 ky, .int .i64 od, .int .i64 (-1)]) := by unfold Aside; rw [hfx]; rfl
            have HI : Aside ((fm L1 (L2.take j) ky).isSome = true) := by unfold Aside; rw [hfx]; rfl
            clear hyc ry hkv hrr hth hWa hWc hjL hod hfx hin
            go_wp2_with (first
              | (at_lookup; rw [← HWa.out]; refine wp_mp_ok rfl _ _ 65 38 rfl Try.underlying65 _ (zeroChg _) B d (fm L1 (L2.take j)) rfl HMa.out ky _ _ HG.out HI.out rfl (by omega) (by omega) ?_)
              | (at_mapUpdate; rw [← HWc.out]; refine wp_mp_set rfl _ _ _ 65 38 rfl Try.underlying65 B d (fm L1 (L2.take j)) rfl HMc.out (by omega) ky (cval (ky, od, vy)) rfl rfl (by omega) (by omega) ?_))
            intro w7 hmp hgr
            have HM7 : Aside (Mp w7 B (d + 1) (fm L1 (L2.take (j + 1)))) := by unfold Aside; rw [← HSt.out]; exact hmp
            have hk7 : KeepBut B w6.heap.size w6 w7 := hkc.trans ⟨(Below.refl _ _).grown hgr (by have := HMc.out.lt; omega) (fun q hq => by cases hq; exact Nat.le_refl _), fun q h1 h2 => hgr.block q (by have := hkc.1.size; omega) (by simp; omega)⟩
            clear hmp hgr
            go_wp2
            go_roundg (gk - 1)
            case measure => omega
            case rel => exact ⟨j + 1, d + 1, by omega, by go_num, by omega, HM7, hk7⟩
          · rw [if_neg hin] at hfx
            have HG : Aside ((fm L1 (L2.take j) ky).getD (.agg #[.int .i64 0, .int .i64 0, .int .i64 0]) = .agg #[.int .i64 0, .int .i64 0, .int .i64 0]) := by unfold Aside; rw [hfx]; rfl
            have HI : Aside ((fm L1 (L2.take j) ky).isSome = false) := by unfold Aside; rw [hfx]; rfl
            obtain rfl : od = -1 := by rw [hod]; exact M.find_has_no (by simpa using hin)
            clear hyc ry hkv hrr hth hWa hWc hjL hod hfx hin
            go_wp2_with (first
              | (at_lookup; rw [← HWa.out]; refine wp_mp_ok rfl _ _ 65 38 rfl Try.underlying65 _ (zeroChg _) B d (fm L1 (L2.take j)) rfl HMa.out ky _ _ HG.out HI.out rfl (by omega) (by omega) ?_)
              | (at_mapUpdate; rw [← HWc.out]; refine wp_mp_set rfl _ _ _ 65 38 rfl Try.underlying65 B d (fm L1 (L2.take j)) rfl HMc.out (by omega) ky (cval (ky, -1, vy)) rfl rfl (by omega) (by omega) ?_))
            intro w7 hmp hgr
            have HM7 : Aside (Mp w7 B (d + 1) (fm L1 (L2.take (j + 1)))) := by unfold Aside; rw [← HSt.out]; exact hmp
            have hk7 : KeepBut B w6.heap.size w6 w7 := hkc.trans ⟨(Below.refl _ _).grown hgr (by have := HMc.out.lt; omega) (fun q hq => by cases hq; exact Nat.le_refl _), fun q h1 h2 => hgr.block q (by have := hkc.1.size; omega) (by simp; omega)⟩
            clear hmp hgr
            go_wp2
            go_roundg (gk - 1)
            case measure => omega
            case rel => exact ⟨j + 1, d + 1, by omega, by go_num, by omega, HM7, hk7⟩
        · have e1 : L2.take j = L2 := List.take_of_length_le (by rw [← HYn.out]; omega)
          have HM7 : Aside (Mp wr B 100 (fm L1 L2)) := by have h := HM.out.mono (show d ≤ 100 by omega); rw [e1] at h; exact h
          obtain ⟨w7, hw7⟩ : ∃ w7, w7 = wr := ⟨_, rfl⟩
          rw [← hw7] at HM7 hq
          have HW7 : Hid (w7 = wr) := hw7
          have HS := sorted_call B 100 (fm L1 L2) w7 HM7.out (by omega) 100 (fm_dom O1.out O2.out)
          have HSS : Hid (Calls Try.prog 36 #[.func (.func 65) #[] #[.pointer (some ⟨w7.heap.size, 0, none⟩)]] (w7.alloc (.cells #[.map (some B)] 65)) fun e w' => ∃ v, e = .returned v ∧ OwnI w' w7.heap.size v (M.sel (fun k => (fm L1 L2 (k : Int)).isSome) 100) ∧ Below w7.heap.size w7 w') := HS
          have hB7 := HM7.out.lt
          clear e1 HM hkb hw7 HM6 HYr HYb q6 HS
          go_wp2_with fail
          rw [← HW7.out]
          refine (keys_call (some B) w7).mono ?_
          rintro e w8 ⟨rfl, hw8⟩
          subst hw8
          go_wp2_with fail
          refine HSS.out.mono ?_
          rintro e w9 ⟨kv, rfl, hko, hb9⟩
          obtain ⟨ks, hks⟩ : ∃ ks, ks = M.sel (fun k => (fm L1 L2 (k : Int)).isSome) 100 := ⟨_, rfl⟩
          rw [← hks] at hko
          obtain ⟨ka, kc, rfl, hri, _, _⟩ := hko.ri
          obtain ⟨ln, hln⟩ : ∃ ln, ln = ks.length := ⟨_, rfl⟩
          rw [← hln] at hri ⊢
          have hl100 : ln ≤ 100 := by rw [hln, hks]; exact M.sel_len _ 100
          have HKS : Aside (ks = M.sel (fun k => (fm L1 L2 (k : Int)).isSome) 100) := hks
          have HLN : Aside (ln = ks.length) := hln
          have HRi : Aside (Ri w9 ka ln ks) := hri
          have HM9 : Aside (Mp w9 B 100 (fm L1 L2)) := HM7.out.below hb9 hB7
          have q9 : Below w.heap.size w w9 := hq.trans (hb9.mono hq.size)
          have hB9 : B < w9.heap.size := HM9.out.lt
          clear HSS hko hri hks hln HM7 hB7 hq HW7 hb9
          go_wp2
          go_loopg [15, 79] ln (fun g v ix ws => ∃ k : Nat, k + g = ln ∧ ix = .int .i64 k ∧ Aside (OwnC ws w9.heap.size v ((ks.take k).filterMap (M.tellC L1 L2))) ∧ Below w9.heap.size w9 ws)
          case atStart => exact ⟨0, by omega, rfl, OwnC.nil _ _, Below.refl _ _⟩
          case round =>
            obtain ⟨k, hkg, rfl, HV, hbel⟩ := hrel
            have hsz := hbel.size
            by_cases hkl : k < ln
            · have hki : (k : Int) < (ln : Int) := by omega
              obtain ⟨kb, ko, rfl, hkB, hkc⟩ : ∃ kb ko, ka = some ⟨kb, ko, none⟩ ∧ kb < w9.heap.size ∧ ∀ i, i < ln → w9.cell? ⟨kb, ko + i, none⟩ = some (.int .i64 (ks.getD i 0)) := by
                rcases HRi.out.cases with ⟨h0, _⟩ | ⟨kb, ko, e, _, _, hkB, hkc⟩
                · omega
                · exact ⟨kb, ko, e, hkB, hkc⟩
              obtain ⟨s, hs, hs100, hsome⟩ : ∃ s : Nat, ks.getD k 0 = (s : Int) ∧ s < 100 ∧ (fm L1 L2 (s : Int)).isSome = true := by
                have hm : ks.getD k 0 ∈ ks := by have h := HLN.out; simp [List.getD, ← h, hkl]
                rw [HKS.out] at hm
                obtain ⟨s, h1, h2, h3⟩ := (M.mem_sel _ _ _).1 hm
                exact ⟨s, by rw [HKS.out]; exact h3, h1, h2⟩
              have ck : wr.cell? ⟨kb, ko + k, none⟩ = some (.int .i64 (s : Int)) := by rw [hbel.cell (p := ⟨kb, ko + k, none⟩) hkB, hkc k hkl, hs]
              obtain ⟨od, hod⟩ : ∃ x, x = M.find (s : Int) L1 := ⟨_, rfl⟩
              obtain ⟨nw, hnw⟩ : ∃ x, x = M.find (s : Int) L2 := ⟨_, rfl⟩
              have FM := filterMap_snoc ks (M.tellC L1 L2) k (by rw [← HLN.out]; exact hkl)
              rw [hs] at FM
              have et : M.tellC L1 L2 (s : Int) = if od ≠ nw then some ((s : Int), od, nw) else none := by unfold M.tellC; rw [← hod, ← hnw]
              rw [et] at FM
              have HG : Aside ((fm L1 L2 (s : Int)).getD (.agg #[.int .i64 0, .int .i64 0, .int .i64 0]) = .agg #[.int .i64 (s : Int), .int .i64 od, .int .i64 nw]) := by unfold Aside; rw [fm_at hsome, hod, hnw]; rfl
              have HMr : Aside (Mp wr B 100 (fm L1 L2)) := HM9.out.below hbel hB9
              have hlenV : Aside (((ks.take k).filterMap (M.tellC L1 L2)).length + 1 ≤ 1000000) := by
                have h1 : ((ks.take k).filterMap (M.tellC L1 L2)).length ≤ (ks.take k).length := List.length_filterMap_le _ _
                rw [List.length_take] at h1
                unfold Aside; omega
              obtain ⟨Wa, hWa⟩ : ∃ Wa, Wa = wr.alloc (.cells #[.int .i64 (s : Int), .int .i64 od, .int .i64 nw] 38) := ⟨_, rfl⟩
              have hba : Below wr.heap.size wr Wa := by rw [hWa]; exact (Below.refl _ _).alloc (Nat.le_refl _) _
              have hbw : Below w9.heap.size w9 Wa := hbel.trans (hba.mono hsz)
              have HVa : Aside (OwnC Wa w9.heap.size u15 ((ks.take k).filterMap (M.tellC L1 L2))) := HV.out.below hba
              by_cases hne : od = nw
              · have hb : (od != nw) = false := by simp [hne]
                rw [if_neg (by simp [hne])] at FM
                have HV2 : Aside (OwnC Wa w9.heap.size u15 ((ks.take (k + 1)).filterMap (M.tellC L1 L2))) := by unfold Aside; rw [FM]; simpa using HVa.out
                rw [hWa] at HV2 hbw
                clear hkc hs hsome hod hnw FM et hWa hba hne HV HVa
                go_wp2_with (at_lookup; refine wp_mp_get rfl _ _ 65 38 rfl Try.underlying65 _ (zeroChg _) B 100 (fm L1 L2) rfl HMr.out (s : Int) _ HG.out rfl (by omega) (by omega) ?_)
                go_roundg (gk - 1)
                case measure => omega
                case rel => exact ⟨k + 1, by omega, by go_num, HV2, hbw⟩
              · have hb : (od != nw) = true := by simp [hne]
                rw [if_pos hne] at FM
                have HFM : Aside ((ks.take (k + 1)).filterMap (M.tellC L1 L2) = (ks.take k).filterMap (M.tellC L1 L2) ++ [((s : Int), od, nw)]) := FM
                obtain ⟨Wb, hWb⟩ : ∃ Wb, Wb = Wa.alloc (.cells #[.int .i64 (s : Int), .int .i64 od, .int .i64 nw] 38) := ⟨_, rfl⟩
                have hbb : Below Wa.heap.size Wa Wb := by rw [hWb]; exact (Below.refl _ _).alloc (Nat.le_refl _) _
                have HVb : Aside (OwnC Wb w9.heap.size u15 ((ks.take k).filterMap (M.tellC L1 L2))) := HVa.out.below hbb
                have hbwb : Below w9.heap.size w9 Wb := hbw.trans (hbb.mono hbw.size)
                have HCb : Hid (∀ j, j < 1 → Wb.cell? ⟨wr.heap.size + 1, 0 + j * 3, none⟩ = some (.int .i64 (([((s : Int), od, nw)] : List M.Chg).getD j (0, 0, 0)).1) ∧ Wb.cell? ⟨wr.heap.size + 1, 0 + j * 3 + 1, none⟩ = some (.int .i64 (([((s : Int), od, nw)] : List M.Chg).getD j (0, 0, 0)).2.1) ∧ Wb.cell? ⟨wr.heap.size + 1, 0 + j * 3 + 2, none⟩ = some (.int .i64 (([((s : Int), od, nw)] : List M.Chg).getD j (0, 0, 0)).2.2)) := by rw [hWb, show wr.heap.size + 1 = Wa.heap.size by rw [hWa]; simp]; exact rc_one Wa _ _ _
                have HWb : Hid (Wb = (wr.alloc (.cells #[.int .i64 (s : Int), .int .i64 od, .int .i64 nw] 38)).alloc (.cells #[.int .i64 (s : Int), .int .i64 od, .int .i64 nw] 38)) := by rw [hWb, hWa]; exact rfl
                clear hkc hs hsome hod hnw FM et hWa hba hne HV HVa hWb hbb
                go_wp2_with (first
                  | (at_lookup; refine wp_mp_get rfl _ _ 65 38 rfl Try.underlying65 _ (zeroChg _) B 100 (fm L1 L2) rfl HMr.out (s : Int) _ HG.out rfl (by omega) (by omega) ?_)
                  | (at_builtin; rw [← HWb.out]; refine append_rc rfl _ _ rfl w9.heap.size _ ((ks.take k).filterMap (M.tellC L1 L2)) rfl HVb.out (wr.heap.size + 1) 1 1 [((s : Int), od, nw)] rfl rfl HCb.out hlenV.out (by have := hbwb.size; omega) ?_))
                intro v' wz ho' hb3 _
                have HV2 : Aside (OwnC wz w9.heap.size v' ((ks.take (k + 1)).filterMap (M.tellC L1 L2))) := by unfold Aside; rw [HFM.out]; exact ho'
                have hb4 : Below w9.heap.size w9 wz := hbwb.trans hb3
                clear ho' hb3
                go_wp2
                go_roundg (gk - 1)
                case measure => omega
                case rel => exact ⟨k + 1, by omega, by go_num, HV2, hb4⟩
            · have e1 : ks.take k = ks := List.take_of_length_le (by rw [← HLN.out]; omega)
              have HV2 : Aside (OwnC wr w9.heap.size u15 DD) := by have h := HV.out; rw [e1, HKS.out, HD.out] at h; exact h
              clear e1
              go_wp2
              go_ret2
              exact ⟨_, rfl, HV2.out.mono q9.size, q9.trans (hbel.mono q9.size)⟩
end Go.Proofs.Ytcgpgflnihjpiad

namespace Go.Proofs.Ytcgpgflnihjpiad
namespace M
def swapC (c : Chg) : Chg := (c.1, c.2.2, c.2.1)
def backE (d : List Chg) : Int := if fine d = true then 0 else 1
def backV (d : List Chg) : List Chg := if fine d = true then d.map swapC else []
theorem map_take (d : List Chg) (k : Nat) (h : k < d.length) : (d.take (k + 1)).map swapC = (d.take k).map swapC ++ [swapC (d.getD k (0, 0, 0))] := by
  rw [List.take_succ_eq_append_getElem h, List.map_append]
  simp [List.getD, h]
end M
open Go.RowKit Go.Maps

def HandsC (w w' : World) (L : List M.Chg) (E : Int) (e : Ending) : Prop := ∃ a n cap, e = .returned (.tuple #[.slice a n cap, .int .i64 E]) ∧ Rc w' a n L ∧ n ≤ cap ∧ cap ≤ maxLen ∧ Below w.heap.size w w'
theorem HandsC.err {w w' : World} (E : Int) (hb : Below w.heap.size w w') : HandsC w w' [] E (.returned (.tuple #[.slice none 0 0, .int .i64 E])) := ⟨none, 0, 0, rfl, ⟨rfl, Or.inl rfl⟩, Nat.le_refl _, by simp [maxLen], hb⟩

set_option maxHeartbeats 4000000 in
theorem back_any (a : Option Addr) (n cap : Nat) (d : List M.Chg) (w : World) (h : Rc w a n d) (hm : n ≤ 9223372036854775807) :
    Calls Try.prog 13 #[.slice a n cap] w fun e w' => HandsC w w' (M.backV d) (M.backE d) e := by
  have K := dright_any a n cap d w h hm
  by_cases hf : M.fine d = true
  · have e1 : M.backE d = 0 := by unfold M.backE; rw [if_pos hf]
    have e2 : M.backV d = d.map M.swapC := by unfold M.backV; rw [if_pos hf]
    rw [e1, e2]
    rw [hf] at K
    have KK : Hid (Calls Try.prog 38 #[.slice a n cap] w fun e w' => e = .returned (.bool true) ∧ Below w.heap.size w w') := K
    have hn100 : n ≤ 100 := by have := ((M.fine_iff d).1 hf).len (by omega); have h1 := h.1; omega
    have HR : Aside (Rc w a n d) := h
    clear K h hf e1 e2
    go_enter Try.func13, Try.ntmps13
    go_wp2_with fail
    refine KK.out.mono ?_
    rintro e w1 ⟨rfl, hb1⟩
    have HR1 : Aside (Rc w1 a n d) := HR.out.below hb1 (Nat.le_refl _)
    have hs1 := hb1.size
    clear KK HR
    go_wp2
    go_loopg [4, 12] n (fun g v ix wr => ∃ i : Nat, i + g = n ∧ ix = .int .i64 i ∧ Aside (OwnC wr w1.heap.size v ((d.take i).map M.swapC)) ∧ Below w1.heap.size w1 wr)
    case atStart => exact ⟨0, by omega, rfl, OwnC.nil _ _, Below.refl _ _⟩
    case round =>
      obtain ⟨i, hig, rfl, HO, hbel⟩ := hrel
      have hsz := hbel.size
      by_cases hlt : i < n
      · have hii : (i : Int) < (n : Int) := by omega
        obtain ⟨b, off, rfl, hB, hc⟩ : ∃ b off, a = some ⟨b, off, none⟩ ∧ b < w1.heap.size ∧ ∀ i, i < n → w1.cell? ⟨b, off + i * 3, none⟩ = some (.int .i64 (d.getD i (0, 0, 0)).1) ∧ w1.cell? ⟨b, off + i * 3 + 1, none⟩ = some (.int .i64 (d.getD i (0, 0, 0)).2.1) ∧ w1.cell? ⟨b, off + i * 3 + 2, none⟩ = some (.int .i64 (d.getD i (0, 0, 0)).2.2) := by
          rcases HR1.out.cases with ⟨h0, _⟩ | ⟨b, off, e, _, _, hB, hc⟩
          · omega
          · exact ⟨b, off, e, hB, hc⟩
        obtain ⟨x, y, z, hxyz⟩ : ∃ x y z, d.getD i (0, 0, 0) = (x, y, z) := ⟨_, _, _, rfl⟩
        obtain ⟨k1, k2, k3⟩ := hc i hlt
        rw [hxyz] at k1 k2 k3
        have p0 : wr.cell? ⟨b, off + i * 3, none⟩ = some (.int .i64 x) := (hbel.cell (p := ⟨b, off + i * 3, none⟩) hB).trans k1
        have p1 : wr.cell? ⟨b, off + i * 3 + 1, none⟩ = some (.int .i64 y) := (hbel.cell (p := ⟨b, off + i * 3 + 1, none⟩) hB).trans k2
        have p2 : wr.cell? ⟨b, off + i * 3 + 2, none⟩ = some (.int .i64 z) := (hbel.cell (p := ⟨b, off + i * 3 + 2, none⟩) hB).trans k3
        have HMt : Aside ((d.take (i + 1)).map M.swapC = (d.take i).map M.swapC ++ [(x, z, y)]) := by unfold Aside; rw [M.map_take d i (by rw [HR1.out.1]; exact hlt), hxyz]; rfl
        have HLe : Aside (((d.take i).map M.swapC).length + 1 ≤ 1000000) := by unfold Aside; rw [List.length_map, List.length_take]; omega
        obtain ⟨Wb, hWb⟩ : ∃ Wb, Wb = (wr.alloc (.cells #[.int .i64 x, .int .i64 y, .int .i64 z] 38)).alloc (.cells #[.int .i64 x, .int .i64 z, .int .i64 y] 38) := ⟨_, rfl⟩
        have hbb : Below wr.heap.size wr Wb := by rw [hWb]; exact ((Below.refl _ _).alloc (Nat.le_refl _) _).alloc (by simp) _
        have HOb : Aside (OwnC Wb w1.heap.size u4 ((d.take i).map M.swapC)) := HO.out.below hbb
        have hbw : Below w1.heap.size w1 Wb := hbel.trans (hbb.mono hsz)
        have HCb : Hid (∀ j, j < 1 → Wb.cell? ⟨wr.heap.size + 1, 0 + j * 3, none⟩ = some (.int .i64 (([(x, z, y)] : List M.Chg).getD j (0, 0, 0)).1) ∧ Wb.cell? ⟨wr.heap.size + 1, 0 + j * 3 + 1, none⟩ = some (.int .i64 (([(x, z, y)] : List M.Chg).getD j (0, 0, 0)).2.1) ∧ Wb.cell? ⟨wr.heap.size + 1, 0 + j * 3 + 2, none⟩ = some (.int .i64 (([(x, z, y)] : List M.Chg).getD j (0, 0, 0)).2.2)) := by rw [hWb, show wr.heap.size + 1 = (wr.alloc (.cells #[.int .i64 x, .int .i64 y, .int .i64 z] 38)).heap.size by simp]; exact rc_one _ _ _ _
        have HWb : Hid (Wb = (wr.alloc (.cells #[.int .i64 x, .int .i64 y, .int .i64 z] 38)).alloc (.cells #[.int .i64 x, .int .i64 z, .int .i64 y] 38)) := hWb
        clear hc hxyz k1 k2 k3 hWb hbb HO
        go_wp2_with (at_builtin; rw [← HWb.out]; refine append_rc rfl _ _ rfl w1.heap.size _ ((d.take i).map M.swapC) rfl HOb.out (wr.heap.size + 1) 1 1 [(x, z, y)] rfl rfl HCb.out HLe.out (by have := hbw.size; omega) ?_)
        intro v' w2 ho' hb3 _
        have HO2 : Aside (OwnC w2 w1.heap.size v' ((d.take (i + 1)).map M.swapC)) := by unfold Aside; rw [HMt.out]; simpa [List.map_take] using ho'
        have hb4 : Below w1.heap.size w1 w2 := hbw.trans hb3
        clear ho' hb3
        go_wp2
        go_roundg (gk - 1)
        case measure => omega
        case rel => exact ⟨i + 1, by omega, by go_num, HO2, hb4⟩
      · have e1 : d.take i = d := List.take_of_length_le (by rw [HR1.out.1]; omega)
        have HO2 : Aside (OwnC wr w1.heap.size u4 (d.map M.swapC)) := by have h := HO.out; rw [e1] at h; exact h
        obtain ⟨va, vc, hv, hr, hl, hm2⟩ := HO2.out.rc
        have HV : Hid (u4 = .slice va (d.map M.swapC).length vc) := hv
        have HVr : Hid (Rc wr va (d.map M.swapC).length (d.map M.swapC)) := hr
        clear e1 hv hr
        go_wp2
        go_ret2
        rw [HV.out]
        exact ⟨va, _, vc, rfl, HVr.out, hl, hm2, hb1.trans (hbel.mono hs1)⟩
  · have e1 : M.backE d = 1 := by unfold M.backE; rw [if_neg hf]
    have e2 : M.backV d = [] := by unfold M.backV; rw [if_neg hf]
    rw [e1, e2]
    have hf2 : M.fine d = false := by simpa using hf
    rw [hf2] at K
    have KK : Hid (Calls Try.prog 38 #[.slice a n cap] w fun e w' => e = .returned (.bool false) ∧ Below w.heap.size w w') := K
    clear K h hf e1 e2 hf2
    go_enter Try.func13, Try.ntmps13
    go_wp2_with fail
    refine KK.out.mono ?_
    rintro e w1 ⟨rfl, hb1⟩
    go_wp2
    go_ret2
    exact HandsC.err 1 hb1
end Go.Proofs.Ytcgpgflnihjpiad

namespace Go.Proofs.Ytcgpgflnihjpiad
open Go.RowKit Go.Maps

/-! ### SameChanges -/
theorem csame_len (a a2 : Option Addr) (n n2 cap cap2 : Nat) (w : World) (h : n ≠ n2) :
    Calls Try.prog 15 #[.slice a n cap, .slice a2 n2 cap2] w fun e w' => e = .returned (.bool false) ∧ w' = w := by
  have hb : ((n : Int) != (n2 : Int)) = true := by simp; omega
  go_enter Try.func15, Try.ntmps15
  go_wp2
  go_ret
  exact ⟨rfl, rfl⟩
theorem csame_none (a a2 : Option Addr) (cap cap2 : Nat) (w : World) :
    Calls Try.prog 15 #[.slice a 0 cap, .slice a2 0 cap2] w fun e w' => e = .returned (.bool true) ∧ w' = w := by
  go_enter Try.func15, Try.ntmps15
  go_wp2
  refine wp_loop_rounds 1 ?_
  rw [rounds_succ]
  go_wp2
  go_ret
  exact ⟨rfl, rfl⟩
set_option maxHeartbeats 4000000 in
theorem csame_some (b off b2 off2 n cap cap2 : Nat) (l l2 : List M.Chg) (w : World) (hm : n ≤ 9223372036854775807) (hl : l.length = n) (hl2 : l2.length = n)
    (hc : ∀ i, i < n → w.cell? ⟨b, off + i * 3, none⟩ = some (.int .i64 (l.getD i (0, 0, 0)).1) ∧ w.cell? ⟨b, off + i * 3 + 1, none⟩ = some (.int .i64 (l.getD i (0, 0, 0)).2.1) ∧ w.cell? ⟨b, off + i * 3 + 2, none⟩ = some (.int .i64 (l.getD i (0, 0, 0)).2.2))
    (hc2 : ∀ i, i < n → w.cell? ⟨b2, off2 + i * 3, none⟩ = some (.int .i64 (l2.getD i (0, 0, 0)).1) ∧ w.cell? ⟨b2, off2 + i * 3 + 1, none⟩ = some (.int .i64 (l2.getD i (0, 0, 0)).2.1) ∧ w.cell? ⟨b2, off2 + i * 3 + 2, none⟩ = some (.int .i64 (l2.getD i (0, 0, 0)).2.2)) :
    Calls Try.prog 15 #[.slice (some ⟨b, off, none⟩) n cap, .slice (some ⟨b2, off2, none⟩) n cap2] w fun e w' => e = .returned (.bool (decide (l = l2))) ∧ ∃ m, w' = w.drewN m := by
  have HC : Aside (∀ i, i < n → w.cell? ⟨b, off + i * 3, none⟩ = some (.int .i64 (l.getD i (0, 0, 0)).1) ∧ w.cell? ⟨b, off + i * 3 + 1, none⟩ = some (.int .i64 (l.getD i (0, 0, 0)).2.1) ∧ w.cell? ⟨b, off + i * 3 + 2, none⟩ = some (.int .i64 (l.getD i (0, 0, 0)).2.2)) := hc
  have HC2 : Aside (∀ i, i < n → w.cell? ⟨b2, off2 + i * 3, none⟩ = some (.int .i64 (l2.getD i (0, 0, 0)).1) ∧ w.cell? ⟨b2, off2 + i * 3 + 1, none⟩ = some (.int .i64 (l2.getD i (0, 0, 0)).2.1) ∧ w.cell? ⟨b2, off2 + i * 3 + 2, none⟩ = some (.int .i64 (l2.getD i (0, 0, 0)).2.2)) := hc2
  have HL : Aside (l.length = n) := hl
  have HL2 : Aside (l2.length = n) := hl2
  clear hc hl hc2 hl2
  go_enter Try.func15, Try.ntmps15
  go_wp2
  go_loopg [5] n (fun g i wr => ∃ k m : Nat, k + g = n ∧ i = .int .i64 k ∧ wr = w.drewN m ∧ Aside (l.drop k = l2.drop k ↔ l = l2))
  case atStart => exact ⟨0, 0, by omega, rfl, rfl, by simp [Aside]⟩
  case round =>
    obtain ⟨k, m, hk, rfl, rfl, A⟩ := hrel
    by_cases hlt : k < n
    · obtain ⟨x, y, z, hx⟩ : ∃ x y z, l.getD k (0, 0, 0) = (x, y, z) := ⟨_, _, _, rfl⟩
      obtain ⟨x2, y2, z2, hx2⟩ : ∃ x y z, l2.getD k (0, 0, 0) = (x, y, z) := ⟨_, _, _, rfl⟩
      obtain ⟨c0, c1, c2⟩ := HC.out k hlt
      obtain ⟨d0, d1, d2⟩ := HC2.out k hlt
      rw [hx] at c0 c1 c2
      rw [hx2] at d0 d1 d2
      have ed : (l.drop k = l2.drop k) ↔ (x, y, z) = (x2, y2, z2) ∧ l.drop (k + 1) = l2.drop (k + 1) := by
        rw [M.gdrop l k (by rw [HL.out]; exact hlt), M.gdrop l2 k (by rw [HL2.out]; exact hlt), List.cons.injEq, hx, hx2]
      rw [A.out] at ed
      have ED : Aside (l = l2 ↔ (x, y, z) = (x2, y2, z2) ∧ l.drop (k + 1) = l2.drop (k + 1)) := ed
      have hki : (k : Int) < (n : Int) := by omega
      clear hx hx2 ed A
      by_cases e0 : x = x2
      · have f0 : (x == x2) = true := by simp [e0]
        by_cases e1 : y = y2
        · have f1 : (y == y2) = true := by simp [e1]
          by_cases e2 : z = z2
          · have f2 : (z == z2) = true := by simp [e2]
            have A1 : Aside (l.drop (k + 1) = l2.drop (k + 1) ↔ l = l2) := by unfold Aside; rw [ED.out]; simp [e0, e1, e2]
            clear e0 e1 e2
            go_wp2_with fail
            go_quiet (fail)
            go_wp2
            go_roundg (gk - 1)
            case measure => omega
            case rel => exact ⟨k + 1, m + nq, by omega, by go_num, rfl, A1⟩
          · have f2 : (z == z2) = false := by simp [e2]
            have A1 : Aside (l ≠ l2) := by unfold Aside; intro e; have h := (ED.out.1 e).1; simp [e2] at h
            clear e0 e1 e2
            go_wp2_with fail
            go_quiet (fail)
            go_wp2
            go_ret
            exact ⟨ret_no A1.out, m + nq, World.drewN_drewN _ _ _⟩
        · have f1 : (y == y2) = false := by simp [e1]
          have A1 : Aside (l ≠ l2) := by unfold Aside; intro e; have h := (ED.out.1 e).1; simp [e1] at h
          clear e0 e1
          go_wp2_with fail
          go_quiet (fail)
          go_wp2
          go_ret
          exact ⟨ret_no A1.out, m + nq, World.drewN_drewN _ _ _⟩
      · have f0 : (x == x2) = false := by simp [e0]
        have A1 : Aside (l ≠ l2) := by unfold Aside; intro e; have h := (ED.out.1 e).1; simp [e0] at h
        clear e0
        go_wp2_with fail
        go_quiet (fail)
        go_wp2
        go_ret
        exact ⟨ret_no A1.out, m + nq, World.drewN_drewN _ _ _⟩
    · go_wp2
      go_ret
      exact ⟨ret_yes (A.out.1 (by rw [List.drop_eq_nil_of_le (by rw [HL.out]; omega), List.drop_eq_nil_of_le (by rw [HL2.out]; omega)])), m, rfl⟩
theorem csame_any (a a2 : Option Addr) (n n2 cap cap2 : Nat) (l l2 : List M.Chg) (w : World) (h : Rc w a n l) (h2 : Rc w a2 n2 l2) (hm : n ≤ 9223372036854775807) :
    Calls Try.prog 15 #[.slice a n cap, .slice a2 n2 cap2] w fun e w' => e = .returned (.bool (decide (l = l2))) ∧ Below w.heap.size w w' := by
  by_cases hn : n = n2
  · subst hn
    rcases h.cases with ⟨rfl, rfl⟩ | ⟨b, off, rfl, hn, hl, hB, hc⟩
    · have e2 : l2 = [] := List.eq_nil_of_length_eq_zero h2.1
      subst e2
      refine (csame_none a a2 cap cap2 w).mono ?_
      rintro e w' ⟨rfl, rfl⟩
      exact ⟨rfl, Below.refl _ _⟩
    · rcases h2.cases with ⟨rfl, rfl⟩ | ⟨b2, off2, rfl, hn2, hl2, hB2, hc2⟩
      · omega
      · refine (csame_some b off b2 off2 n cap cap2 l l2 w hm hl hl2 hc hc2).mono ?_
        rintro e w' ⟨rfl, m, rfl⟩
        exact ⟨rfl, drewN_below w m⟩
  · refine (csame_len a a2 n n2 cap cap2 w hn).mono ?_
    rintro e w' ⟨rfl, rfl⟩
    exact ⟨ret_no (fun e => hn (by rw [← h.1, ← h2.1, e])), Below.refl _ _⟩

/-! ### diff.Of, whatever it is handed -/
def difE (T U : List (List (List (Int × Int)))) : Int := if treeE T ≠ 0 then treeE T else treeE U
def difV (T U : List (List (List (Int × Int)))) : List M.Chg := if difE T U = 0 then M.dif (flat T) (flat U) else []
theorem dof_any (a1 a2 : Option Addr) (n1 n2 c1 c2 : Nat) (T U : List (List (List (Int × Int)))) (w : World) (h1 : TvS w a1 n1 c1 T) (t1 : Big T) (h2 : TvS w a2 n2 c2 U) (t2 : Big U) :
    Calls Try.prog 11 #[.slice a1 n1 c1, .slice a2 n2 c2] w fun e w' => HandsC w w' (difV T U) (difE T U) e := by
  by_cases z1 : treeE T = 0
  · by_cases z2 : treeE U = 0
    · have e0 : difE T U = 0 := by unfold difE; rw [if_neg (by omega)]; exact z2
      unfold difV
      rw [e0, if_pos rfl]
      refine (dof_good a1 a2 n1 n2 c1 c2 T U w h1 t1 h2 t2 z1 z2).mono ?_
      rintro e w' ⟨v, rfl, ho, hb⟩
      obtain ⟨va, vc, rfl, hr, hl, hm⟩ := ho.rc
      exact ⟨va, _, vc, rfl, hr, hl, hm, hb⟩
    · have e0 : difE T U = treeE U := by unfold difE; rw [if_neg (by omega)]
      unfold difV
      rw [e0, if_neg z2]
      refine (dof_bad2 a1 a2 n1 n2 c1 c2 T U w h1 t1 h2 t2 z1 z2).mono ?_
      rintro e w' ⟨rfl, hb⟩
      exact HandsC.err _ hb
  · have e0 : difE T U = treeE T := by unfold difE; rw [if_pos z1]
    unfold difV
    rw [e0, if_neg z1]
    refine (dof_bad1 a1 a2 n1 n2 c1 c2 T w h1 t1 z1).mono ?_
    rintro e w' ⟨rfl, hb⟩
    exact HandsC.err _ hb
/-- What is built, and that it is right. -/
theorem built (a : Option Addr) (n cap : Nat) (l : List (Int × Int)) (w : World) (h : Sl w a n cap l) (h0 : M.chk l = 0) :
    Calls Try.prog 9 #[.slice a n cap] w fun e w' => ∃ ta tn tc, e = .returned (.tuple #[.slice ta tn tc, .int .i64 0]) ∧ TvS w' ta tn tc (M.build l) ∧ Below w.heap.size w w' := by
  refine (build_any a n cap l w h).mono ?_
  rintro e w' ⟨v, rfl, ho, hb⟩
  rw [if_pos h0] at ho
  obtain ⟨ta, tn, tc, rfl, ht⟩ := ho.tv
  rw [h0]
  exact ⟨ta, tn, tc, rfl, ht, hb⟩
theorem difV_built {l m : List (Int × Int)} (h1 : M.chk l = 0) (h2 : M.chk m = 0) : difE (M.build l) (M.build m) = 0 ∧ difV (M.build l) (M.build m) = M.dif l m := by
  have e0 : difE (M.build l) (M.build m) = 0 := by unfold difE; rw [build_tree l h1, build_tree m h2]; simp
  refine ⟨e0, ?_⟩
  unfold difV
  rw [if_pos e0, (build_like l h1).1, (build_like m h2).1]
end Go.Proofs.Ytcgpgflnihjpiad

namespace Go.Proofs.Ytcgpgflnihjpiad.M

theorem mem_dif (a b : List (Int × Int)) (c : Chg) : c ∈ dif a b ↔ ∃ k : Nat, k < 100 ∧ find (k : Int) a ≠ find (k : Int) b ∧ c = ((k : Int), find k a, find k b) := mem_difF a b 100 c
theorem dif_fine {a b : List (Int × Int)} (ha : Ok a) (hb : Ok b) : Fine (-1) (dif a b) := by
  refine ⟨fun c hc => ?_, difF_rise a b 100⟩
  obtain ⟨k, h1, h2, rfl⟩ := (mem_dif a b c).1 hc
  have r1 := find_range (key := (k : Int)) ha
  have r2 := find_range (key := (k : Int)) hb
  exact ⟨by show -1 < (k : Int); omega, by show (k : Int) ≤ 99; omega, r1.1, r1.2, r2.1, r2.2, h2⟩
theorem dif_clash (a b : List (Int × Int)) : clashF a (dif a b) = false := by
  unfold clashF
  rw [List.any_eq_false]
  intro c hc
  obtain ⟨k, h1, h2, rfl⟩ := (mem_dif a b c).1 hc
  simp
theorem dif_tab (a b : List (Int × Int)) (k : Nat) (hk : k < 100) : tab (fun x => find x a) (dif a b) (k : Int) = find k b := by
  rcases tab_cases (fun x => find x a) _ (difF_rise a b 100) (k : Int) with ⟨c, hc, e1, e2⟩ | ⟨hno, e2⟩
  · obtain ⟨j, h1, h2, rfl⟩ := (mem_dif a b c).1 hc
    have : (j : Int) = (k : Int) := e1
    have : j = k := by omega
    subst this
    exact e2
  · by_cases h : find (k : Int) a = find (k : Int) b
    · exact e2.trans h
    · exact absurd rfl (hno _ ((mem_dif a b _).2 ⟨k, hk, h, rfl⟩))
theorem dif_patch {a b : List (Int × Int)} (ha : chk a = 0) (hb : chk b = 0) : patchE a (dif a b) = 0 ∧ patchV a (dif a b) = b := by
  have oa := (chk_zero a).1 ha
  have ob := (chk_zero b).1 hb
  have e : ofTab (tab (fun k => find k a) (dif a b)) = b := ofTab_self ob.2 _ fun i hi => dif_tab a b i hi
  have e0 : patchE a (dif a b) = 0 := by
    unfold patchE
    rw [e, ha, (fine_iff _).2 (dif_fine oa.2 ob.2), dif_clash]
    have := ob.1
    simp
    omega
  refine ⟨e0, ?_⟩
  unfold patchV
  rw [if_pos e0, e]
theorem difF_swap (a b : List (Int × Int)) (n : Nat) : (difF a b n).map swapC = difF b a n := by
  induction n with
  | zero => rfl
  | succ n ih =>
    rw [difF, difF]
    by_cases h : find (n : Int) a = find (n : Int) b
    · rw [if_neg (by simp [h]), if_neg (by simp [h]), ih]
    · rw [if_pos h, if_pos (fun e => h e.symm), List.map_append, ih]; rfl
theorem dif_back {a b : List (Int × Int)} (ha : chk a = 0) (hb : chk b = 0) : backE (dif a b) = 0 ∧ backV (dif a b) = dif b a := by
  have hf := (fine_iff _).2 (dif_fine ((chk_zero a).1 ha).2 ((chk_zero b).1 hb).2)
  unfold backE backV
  rw [if_pos hf, if_pos hf]
  exact ⟨rfl, difF_swap a b 100⟩
theorem dif_nil {a b : List (Int × Int)} (ha : chk a = 0) (hb : chk b = 0) : dif a b = [] ↔ a = b := by
  have oa := ((chk_zero a).1 ha).2
  have ob := ((chk_zero b).1 hb).2
  constructor
  · intro h
    refine ext _ _ oa ob fun k => ?_
    by_cases hk : 0 ≤ k ∧ k ≤ 99
    · obtain ⟨i, rfl⟩ := Int.eq_ofNat_of_zero_le hk.1
      by_cases e : find (i : Int) a = find (i : Int) b
      · exact e
      · have := (mem_dif a b _).2 ⟨i, by omega, e, rfl⟩
        rw [h] at this
        simp at this
    · rw [find_out oa k (by omega), find_out ob k (by omega)]
  · rintro rfl
    refine List.eq_nil_iff_forall_not_mem.2 fun c hc => ?_
    obtain ⟨k, _, h, _⟩ := (mem_dif a a c).1 hc
    exact h rfl
theorem difF_le (a b : List (Int × Int)) (n : Nat) : (difF a b n).length ≤ (foldTo (fun i => find (i : Int) a) n).length + (foldTo (fun i => find (i : Int) b) n).length := by
  induction n with
  | zero => simp [difF]
  | succ n ih =>
    rw [difF, foldTo, foldTo]
    by_cases h : find (n : Int) a = find (n : Int) b
    · rw [if_neg (by simp [h])]
      split <;> split <;> (try simp) <;> omega
    · rw [if_pos h]
      by_cases h1 : find (n : Int) a = -1
      · rw [if_pos h1, if_neg (by omega)]; simp; omega
      · rw [if_neg h1]
        split <;> simp <;> omega
theorem dif_le {a b : List (Int × Int)} (ha : chk a = 0) (hb : chk b = 0) : (dif a b).length ≤ a.length + b.length := by
  have oa := ((chk_zero a).1 ha).2
  have ob := ((chk_zero b).1 hb).2
  have h := difF_le a b 100
  have e1 : foldTo (fun i => find (i : Int) a) 100 = a := ofTab_self oa (fun k => find k a) fun _ _ => rfl
  have e2 : foldTo (fun i => find (i : Int) b) 100 = b := ofTab_self ob (fun k => find k b) fun _ _ => rfl
  rw [e1, e2] at h
  exact h
theorem dif_at (a b : List (Int × Int)) (k : Nat) (h : k < (dif a b).length) : ∃ i : Nat, i < 100 ∧ find (i : Int) a ≠ find (i : Int) b ∧ (dif a b).getD k (0, 0, 0) = ((i : Int), find i a, find i b) := by
  obtain ⟨i, h1, h2, h3⟩ := (mem_dif a b _).1 (gmem (dif a b) k h)
  exact ⟨i, h1, h2, h3⟩

/-- What of the second's changes is not yet in the first. -/
def left (b l m : List (Int × Int)) : List Chg := (dif b m).filter (fun c => decide (find c.1 l ≠ c.2.2))
theorem difF_left (b l m : List (Int × Int)) (n : Nat) (h : ∀ k : Nat, k < n → mclash (find k b) (find k l) (find k m) = false) :
    (difF b m n).filter (fun c => decide (find c.1 l ≠ c.2.2)) = (sel (fun k => decide (find (k : Int) b ≠ find (k : Int) m)) n).filterMap (aloneC b l m) := by
  induction n with
  | zero => rfl
  | succ n ih =>
    have ih := ih fun k hk => h k (by omega)
    have hc := h n (by omega)
    unfold mclash at hc
    rw [decide_eq_false_iff_not] at hc
    rw [difF, sel]
    by_cases h1 : find (n : Int) b = find (n : Int) m
    · rw [if_neg (by simp [h1]), if_neg (by simp [h1]), ih]
    · rw [if_pos h1, if_pos (by simp [h1]), List.filter_append, List.filterMap_append, ih]
      congr 1
      by_cases h2 : find (n : Int) b = find (n : Int) l
      · have h3 : find (n : Int) l ≠ find (n : Int) m := by omega
        simp [aloneC, h2, h3]
      · have h3 : find (n : Int) l = find (n : Int) m := by omega
        simp [aloneC, h3, h1]
theorem left_alone (b l m : List (Int × Int)) (h : mkeys b l m = []) : left b l m = alone b l m := by
  refine difF_left b l m 100 fun k hk => ?_
  cases hm : mclash (find (k : Int) b) (find (k : Int) l) (find (k : Int) m) with
  | false => rfl
  | true =>
    have : (k : Int) ∈ mkeys b l m := (mem_sel _ _ _).2 ⟨k, hk, hm, rfl⟩
    rw [h] at this
    simp at this
theorem left_patch {b l m : List (Int × Int)} (hE : mergeE b l m = 0) (hK : mkeys b l m = []) : patchE l (left b l m) = 0 ∧ patchV l (left b l m) = mrows b l m := by
  have z1 : chk b = 0 := by unfold mergeE at hE; split at hE <;> omega
  have z2 : chk l = 0 := by unfold mergeE at hE; rw [if_neg (by omega)] at hE; split at hE <;> omega
  have z3 : chk m = 0 := by unfold mergeE at hE; rw [if_neg (by omega), if_neg (by omega)] at hE; split at hE <;> omega
  have h := alone_patch z1 z2 z3
  rw [left_alone b l m hK]
  have e0 : patchE l (alone b l m) = 0 := h.1.trans hE
  refine ⟨e0, ?_⟩
  unfold patchV
  rw [if_pos e0, h.2]
end Go.Proofs.Ytcgpgflnihjpiad.M

namespace Go.Proofs.Ytcgpgflnihjpiad
open Go.RowKit

theorem of_built (a1 a2 : Option Addr) (n1 n2 c1 c2 : Nat) (l m : List (Int × Int)) (w : World) (z1 : M.chk l = 0) (z2 : M.chk m = 0) (h1 : TvS w a1 n1 c1 (M.build l)) (h2 : TvS w a2 n2 c2 (M.build m)) :
    Calls Try.prog 11 #[.slice a1 n1 c1, .slice a2 n2 c2] w fun e w' => HandsC w w' (M.dif l m) 0 e := by
  have f := dof_any a1 a2 n1 n2 c1 c2 _ _ w h1 (build_big _ z1) h2 (build_big _ z2)
  rwa [(difV_built z1 z2).1, (difV_built z1 z2).2] at f
theorem patch_dif (a : Option Addr) (n c : Nat) (a2 : Option Addr) (n2 c2 : Nat) (l m : List (Int × Int)) (w : World) (z1 : M.chk l = 0) (z2 : M.chk m = 0) (h1 : Sl w a n c l) (h2 : Rc w a2 n2 (M.dif l m)) :
    Calls Try.prog 12 #[.slice a n c, .slice a2 n2 c2] w fun e w' => Hands w w' m 0 e := by
  have hn : n2 ≤ 9223372036854775807 := by have := M.difF_len l m 100; have h3 := h2.1; unfold M.dif at h3; omega
  have f := patch_any a n c l a2 n2 c2 _ w h1.1 h1.len h1.2.2.2 h2 hn
  rwa [(M.dif_patch z1 z2).1, (M.dif_patch z1 z2).2] at f
theorem back_dif (a2 : Option Addr) (n2 c2 : Nat) (l m : List (Int × Int)) (w : World) (z1 : M.chk l = 0) (z2 : M.chk m = 0) (h2 : Rc w a2 n2 (M.dif l m)) :
    Calls Try.prog 13 #[.slice a2 n2 c2] w fun e w' => HandsC w w' (M.dif m l) 0 e := by
  have hn : n2 ≤ 9223372036854775807 := by have := M.difF_len l m 100; have h3 := h2.1; unfold M.dif at h3; omega
  have f := back_any a2 n2 c2 _ w h2 hn
  rwa [(M.dif_back z1 z2).1, (M.dif_back z1 z2).2] at f

theorem find_has (aa : Option Addr) (nn cc : Nat) (ll : List (Int × Int)) (kk : Nat) (W : World) (hr : Rd W aa nn ll) (hn : nn ≤ 9223372036854775807) (hz : M.chk ll = 0) (hk : kk < 100) :
    Calls Try.prog 18 #[.slice aa nn cc, .int .i64 (kk : Int)] W fun e w' => e = .returned (.tuple #[.int .i64 (M.find kk ll), .int .i64 0]) ∧ Below W.heap.size W w' := by
  have H := find_any aa nn cc ll kk W hr hn
  have e := M.asked_ok hz (key := (kk : Int)) (by omega) (by omega)
  rw [M.findV_ok e, e] at H
  exact H
theorem Rc.ofPos {w : World} {a : Option Addr} {n : Nat} {l : List M.Chg} (h : Rc w a n l) (i : Nat) (hi : i < n) : ∃ b off, a = some ⟨b, off, none⟩ ∧ b < w.heap.size ∧ ∀ i, i < n → w.cell? ⟨b, off + i * 3, none⟩ = some (.int .i64 (l.getD i (0, 0, 0)).1) ∧ w.cell? ⟨b, off + i * 3 + 1, none⟩ = some (.int .i64 (l.getD i (0, 0, 0)).2.1) ∧ w.cell? ⟨b, off + i * 3 + 2, none⟩ = some (.int .i64 (l.getD i (0, 0, 0)).2.2) := by
  rcases h.cases with ⟨h0, _⟩ | ⟨b, off, e, _, _, hB, hc⟩
  · omega
  · exact ⟨b, off, e, hB, hc⟩
end Go.Proofs.Ytcgpgflnihjpiad

namespace Go.Proofs.Ytcgpgflnihjpiad
open Go.ChangeShapes Go.WideShapes Go.ChangeAt Go.RowKit Go.Deep

theorem ownTry : ownKnob Try.prog.godebug = none := by kernel_rfl
theorem laidTry : laidOutB Try.prog = true := by kernel_rfl

theorem open_rows {H : Type} {enc : TypeId × Value → H} {w : World} {base : Nat} {spare : Nat → Bool} {held : Bool} {fuel : Nat} {a : Option Addr} {len cap : Nat} {x : DataW H × List MemPlace}
    (h : DataW.trod enc Try.prog w base spare held fuel 22 [.slice a len cap] = some x) : ∃ l, Rd w a len l ∧ len ≤ cap ∧ cap ≤ maxLen ∧ (a = none → len = 0 ∧ cap = 0) := by
  rcases open_slice_pairs Try.underlying22 Try.underlying63 (by kernel_rfl) rfl rfl (by kernel_rfl) (by kernel_rfl) h with ⟨hcs, _⟩ | ⟨ad, len', cap', m, n, V0, V1, D0, D1, P0, P1, hcs, _, hl, hm, hmm, _, hc⟩
  · simp at hcs
    obtain ⟨rfl, rfl, rfl⟩ := hcs
    exact ⟨[], ⟨rfl, Or.inl rfl⟩, Nat.le_refl _, by simp [maxLen], fun _ => ⟨rfl, rfl⟩⟩
  · simp at hcs
    obtain ⟨rfl, rfl, rfl⟩ := hcs
    have hlm : len ≤ m := by rw [hmm]; split <;> omega
    have each : ∀ i, i < len → ∃ q : Int × Int, w.cell? (ad.add (i * 2)) = some (.int .i64 q.1) ∧ w.cell? (ad.add (i * 2 + 1)) = some (.int .i64 q.2) := by
      intro i hi
      obtain ⟨c0, c1, t0, t1⟩ := hc i (by omega)
      obtain ⟨x0, e0, _, _⟩ := DataW.trod_int (k := .i64) Try.underlying3 t0
      obtain ⟨x1, e1, _, _⟩ := DataW.trod_int (k := .i64) Try.underlying3 t1
      simp at e0 e1
      rw [e0] at c0
      rw [e1] at c1
      exact ⟨(x0, x1), c0, c1⟩
    obtain ⟨q, hq⟩ := choose_lt each
    refine ⟨(List.range len).map q, ⟨by simp, ?_⟩, hl, hm, fun h => by simp at h⟩
    by_cases h0 : len = 0
    · exact Or.inl h0
    · obtain ⟨b, off, spot⟩ := ad
      have hs : spot = none := by
        have h1 := (hq 0 (by omega)).1
        simpa [Addr.add] using World.cell?_spot h1
      subst hs
      refine Or.inr ⟨b, off, rfl, World.block_lt_of_cell? w _ (hq 0 (by omega)).1, fun i hi => ?_⟩
      have h1 := hq i hi
      rw [Addr.add_lit, Addr.add_lit, ← Nat.add_assoc] at h1
      have e : ((List.range len).map q).getD i (0, 0) = q i := by simp [List.getD, hi]
      rw [e]
      exact h1
end Go.Proofs.Ytcgpgflnihjpiad

namespace Go.Proofs.Ytcgpgflnihjpiad
open Go.ChangeShapes Go.WideShapes Go.ChangeAt Go.RowKit

theorem merge_zero {b l m : List (Int × Int)} (h : M.mergeE b l m = 0) : M.chk b = 0 ∧ M.chk l = 0 ∧ M.chk m = 0 := by
  unfold M.mergeE at h
  by_cases z1 : M.chk b = 0
  · by_cases z2 : M.chk l = 0
    · by_cases z3 : M.chk m = 0
      · exact ⟨z1, z2, z3⟩
      · rw [if_neg (by omega), if_neg (by omega), if_pos z3] at h; omega
    · rw [if_neg (by omega), if_pos z2] at h; omega
  · rw [if_pos z1] at h; omega
theorem patch_left (a : Option Addr) (n c : Nat) (a2 : Option Addr) (n2 c2 : Nat) (b l m : List (Int × Int)) (w : World) (hE : M.mergeE b l m = 0) (hK : M.mkeys b l m = []) (h1 : Sl w a n c l) (h2 : Rc w a2 n2 (M.left b l m)) :
    Calls Try.prog 12 #[.slice a n c, .slice a2 n2 c2] w fun e w' => Hands w w' (M.mrows b l m) 0 e := by
  have hn : n2 ≤ 9223372036854775807 := by
    have h3 := h2.1
    have h4 := List.length_filter_le (fun c => decide (M.find c.1 l ≠ c.2.2)) (M.dif b m)
    have h5 := M.difF_len b m 100
    unfold M.left at h3
    unfold M.dif at h3 h4
    omega
  have f := patch_any a n c l a2 n2 c2 _ w h1.1 h1.len h1.2.2.2 h2 hn
  rwa [(M.left_patch hE hK).1, (M.left_patch hE hK).2] at f

set_option maxHeartbeats 8000000 in
theorem threePatch_walk (a1 a2 a3 : Option Addr) (n1 n2 n3 c1 c2 c3 : Nat) (b l m : List (Int × Int)) (w : World) (h1 : Sl w a1 n1 c1 b) (h2 : Sl w a2 n2 c2 l) (h3 : Sl w a3 n3 c3 m) :
    Calls Try.prog 7 #[.slice a1 n1 c1, .slice a2 n2 c2, .slice a3 n3 c3] w fun e w' => e = .returned (.bool true) ∧ Below w.heap.size w w' := by
  have begun : Hid (∀ W, Below w.heap.size w W → Calls Try.prog 21 #[] W fun e w' => e = .returned (.bool true) ∧ Below w.heap.size w w' ∧ Below W.heap.size W w') := fun W hW => (threeBegun_any W).mono fun e w' ⟨h, hb⟩ => ⟨h, below2 hW hb, hb⟩
  have K := merge_any a1 a2 a3 n1 n2 n3 c1 c2 c3 b l m w h1.1 h2.1 h3.1 h1.len h2.len h3.len h2.2.2.2
  have S1 : Hid (Sl w a1 n1 c1 b) := h1
  have S2 : Hid (Sl w a2 n2 c2 l) := h2
  have S3 : Hid (Sl w a3 n3 c3 m) := h3
  clear h1 h2 h3
  by_cases hE : M.mergeE b l m = 0
  · have hK : M.mergeK b l m = M.mkeys b l m := by unfold M.mergeK; rw [if_pos hE]
    have hV : M.mergeV b l m = M.mrows b l m := by unfold M.mergeV; rw [if_pos hE]
    rw [hE, hK, hV] at K
    have KK : Hid (Calls Try.prog 19 #[.slice a1 n1 c1, .slice a2 n2 c2, .slice a3 n3 c3] w fun e w' => Hands3 w w' (M.mrows b l m) (M.mkeys b l m) 0 e) := K
    have HE : Hid (M.mergeE b l m = 0) := hE
    have Z := merge_zero hE
    have Z1 : Hid (M.chk b = 0) := Z.1
    have Z2 : Hid (M.chk l = 0) := Z.2.1
    have Z3 : Hid (M.chk m = 0) := Z.2.2
    clear K hE hK hV Z
    go_enter Try.func7, Try.ntmps7
    go_wp2_with fail
    refine KK.out.mono ?_
    rintro e w1 ⟨la, ln, lc, ca, cn, cc, rfl, rl, hlc, hlm, _, rc, hcc, hcm, q1⟩
    have L1 : Hid (Rd w1 la ln (M.mrows b l m)) := rl
    have hln : ln ≤ 9223372036854775807 := by unfold maxLen at hlm; omega
    have S11 : Hid (Sl w1 a1 n1 c1 b) := S1.out.below q1
    have HC : Hid ((M.mkeys b l m).length = cn) := rc.1
    clear rl rc KK hlc hlm hcc hcm
    go_wp2_with fail
    refine (built _ _ _ _ _ S11.out Z1.out).mono ?_
    rintro e w2 ⟨ta, tn, tc, rfl, t, ba⟩
    have T2 : Hid (TvS w2 ta tn tc (M.build b)) := t
    have L2 : Hid (Rd w2 la ln (M.mrows b l m)) := L1.out.below ba (Nat.le_refl _)
    have q2 := below2 q1 ba
    have S32 : Hid (Sl w2 a3 n3 c3 m) := S3.out.below q2
    clear t ba L1 S11 q1
    go_wp2_with fail
    refine (built _ _ _ _ _ S32.out Z3.out).mono ?_
    rintro e w3 ⟨ua, un, uc, rfl, t, ba⟩
    have U3 : Hid (TvS w3 ua un uc (M.build m)) := t
    have T3 : Hid (TvS w3 ta tn tc (M.build b)) := T2.out.below ba
    have L3 : Hid (Rd w3 la ln (M.mrows b l m)) := L2.out.below ba (Nat.le_refl _)
    have q3 := below2 q2 ba
    clear t ba L2 T2 S32 q2
    by_cases hc0 : cn = 0
    · subst hc0
      have HK : Hid (M.mkeys b l m = []) := List.eq_nil_of_length_eq_zero HC.out
      clear HC
      go_wp2_with fail
      refine (of_built _ _ _ _ _ _ _ _ _ Z1.out Z3.out T3.out U3.out).mono ?_
      rintro e w4 ⟨da, dn, dc, rfl, r, _, _, ba⟩
      have D4 : Hid (Rc w4 da dn (M.dif b m)) := r
      have L4 : Hid (Rd w4 la ln (M.mrows b l m)) := L3.out.below ba (Nat.le_refl _)
      have q4 := below2 q3 ba
      have hs4 := q4.size
      have hd100 : dn ≤ 100 := by rw [← D4.out.1]; exact M.difF_len b m 100
      clear r ba T3 U3 L3 q3
      obtain ⟨P, hP⟩ : ∃ P : M.Chg → Bool, P = fun c => decide (M.find c.1 l ≠ c.2.2) := ⟨_, rfl⟩
      obtain ⟨d, hd⟩ : ∃ d, d = M.dif b m := ⟨_, rfl⟩
      rw [← hd] at D4
      have HP : Hid (P = fun c => decide (M.find c.1 l ≠ c.2.2)) := hP
      have HD : Hid (d = M.dif b m) := hd
      have HLft : Hid (d.filter P = M.left b l m) := by unfold Hid M.left; rw [hP, hd]
      clear hP hd
      go_wp2
      go_loopg [16, 17] dn (fun g v ix wr => ∃ i : Nat, i + g = dn ∧ ix = .int .i64 i ∧ Aside (OwnC wr w4.heap.size v ((d.take i).filter P)) ∧ Below w4.heap.size w4 wr)
      case atStart => exact ⟨0, by omega, rfl, OwnC.nil _ _, Below.refl _ _⟩
      case round =>
        obtain ⟨i, hig, rfl, HO, hbel⟩ := hrel
        have hsz := hbel.size
        by_cases hlt : i < dn
        · have hii : (i : Int) < (dn : Int) := by omega
          obtain ⟨db, doff, rfl, hB, hc⟩ := D4.out.ofPos i hlt
          obtain ⟨k, hk, hne, hat⟩ : ∃ k : Nat, k < 100 ∧ M.find (k : Int) b ≠ M.find (k : Int) m ∧ d.getD i (0, 0, 0) = ((k : Int), M.find k b, M.find k m) := by
            rw [HD.out]; exact M.dif_at b m i (by rw [← HD.out, D4.out.1]; exact hlt)
          obtain ⟨k1, k2, k3⟩ := hc i hlt
          rw [hat] at k1 k2 k3
          obtain ⟨x, hx⟩ : ∃ x, x = M.find (k : Int) b := ⟨_, rfl⟩
          obtain ⟨y, hy⟩ : ∃ y, y = M.find (k : Int) l := ⟨_, rfl⟩
          obtain ⟨z, hz⟩ : ∃ z, z = M.find (k : Int) m := ⟨_, rfl⟩
          rw [← hx, ← hz] at hat k1 k2 k3
          have p0 : wr.cell? ⟨db, doff + i * 3, none⟩ = some (.int .i64 (k : Int)) := (hbel.cell (p := ⟨db, doff + i * 3, none⟩) hB).trans k1
          have p1 : wr.cell? ⟨db, doff + i * 3 + 1, none⟩ = some (.int .i64 x) := (hbel.cell (p := ⟨db, doff + i * 3 + 1, none⟩) hB).trans k2
          have p2 : wr.cell? ⟨db, doff + i * 3 + 2, none⟩ = some (.int .i64 z) := (hbel.cell (p := ⟨db, doff + i * 3 + 2, none⟩) hB).trans k3
          have HMt : Aside ((d.take (i + 1)).filter P = (d.take i).filter P ++ if (y != z) = true then [((k : Int), x, z)] else []) := by
            unfold Aside
            rw [M.filter_take d P i (by rw [D4.out.1]; exact hlt), hat, HP.out]
            have e : decide (M.find (k : Int) l ≠ z) = (y != z) := by rw [← hy, Bool.eq_iff_iff]; simp
            show _ ++ (if decide (M.find (k : Int) l ≠ z) = true then _ else _) = _
            rw [e]
          have hqr : Below w.heap.size w wr := q4.trans (hbel.mono hs4)
          have G1 := find_has a2 n2 c2 l k wr (S2.out.1.below hqr (Nat.le_refl _)) S2.out.len Z2.out hk
          rw [← hy] at G1
          have GG1 : Hid (Calls Try.prog 18 #[.slice a2 n2 c2, .int .i64 (k : Int)] wr fun e w' => e = .returned (.tuple #[.int .i64 y, .int .i64 0]) ∧ Below wr.heap.size wr w') := G1
          have HLe : Aside (((d.take i).filter P).length + 1 ≤ 1000000) := by
            unfold Aside
            have := List.length_filter_le P (d.take i)
            rw [List.length_take] at this
            omega
          clear hc hat k1 k2 k3 hx hy hz hne G1
          go_wp2_with fail
          refine GG1.out.mono ?_
          rintro e wf ⟨rfl, hbf⟩
          have hB2 : db < wr.heap.size := Nat.lt_of_lt_of_le hB hsz
          have r0 : wf.cell? ⟨db, doff + i * 3, none⟩ = some (.int .i64 (k : Int)) := (hbf.cell (p := ⟨db, doff + i * 3, none⟩) hB2).trans p0
          have r1 : wf.cell? ⟨db, doff + i * 3 + 1, none⟩ = some (.int .i64 x) := (hbf.cell (p := ⟨db, doff + i * 3 + 1, none⟩) hB2).trans p1
          have r2 : wf.cell? ⟨db, doff + i * 3 + 2, none⟩ = some (.int .i64 z) := (hbf.cell (p := ⟨db, doff + i * 3 + 2, none⟩) hB2).trans p2
          have HOf : Aside (OwnC wf w4.heap.size u16 ((d.take i).filter P)) := HO.out.below hbf
          have hbw : Below w4.heap.size w4 wf := hbel.trans (hbf.mono hsz)
          clear p0 p1 p2 GG1 HO hqr
          cases hyz : (y != z) with
          | true =>
            have HMt2 : Aside ((d.take (i + 1)).filter P = (d.take i).filter P ++ [((k : Int), x, z)]) := by have h := HMt.out; rw [hyz, if_pos rfl] at h; exact h
            obtain ⟨Wb, hWb⟩ : ∃ Wb, Wb = wf.alloc (.cells #[.int .i64 (k : Int), .int .i64 x, .int .i64 z] 38) := ⟨_, rfl⟩
            have hbb : Below wf.heap.size wf Wb := by rw [hWb]; exact (Below.refl _ _).alloc (Nat.le_refl _) _
            have HOb : Aside (OwnC Wb w4.heap.size u16 ((d.take i).filter P)) := HOf.out.below hbb
            have hbw2 : Below w4.heap.size w4 Wb := hbw.trans (hbb.mono hbw.size)
            have HCb : Hid (∀ j, j < 1 → Wb.cell? ⟨wf.heap.size, 0 + j * 3, none⟩ = some (.int .i64 (([((k : Int), x, z)] : List M.Chg).getD j (0, 0, 0)).1) ∧ Wb.cell? ⟨wf.heap.size, 0 + j * 3 + 1, none⟩ = some (.int .i64 (([((k : Int), x, z)] : List M.Chg).getD j (0, 0, 0)).2.1) ∧ Wb.cell? ⟨wf.heap.size, 0 + j * 3 + 2, none⟩ = some (.int .i64 (([((k : Int), x, z)] : List M.Chg).getD j (0, 0, 0)).2.2)) := by rw [hWb]; exact rc_one _ _ _ _
            have HWb : Hid (Wb = wf.alloc (.cells #[.int .i64 (k : Int), .int .i64 x, .int .i64 z] 38)) := hWb
            clear hWb hbb HOf HMt
            go_wp2_with (at_builtin; rw [← HWb.out]; refine append_rc rfl _ _ rfl w4.heap.size _ ((d.take i).filter P) rfl HOb.out wf.heap.size 1 1 [((k : Int), x, z)] rfl rfl HCb.out HLe.out (by have := hbw2.size; have := hbw.size; omega) ?_)
            intro v' w5 ho' hb3 _
            have HO2 : Aside (OwnC w5 w4.heap.size v' ((d.take (i + 1)).filter P)) := by unfold Aside; rw [HMt2.out]; exact ho'
            have hb4 : Below w4.heap.size w4 w5 := hbw2.trans hb3
            clear ho' hb3
            go_wp2
            go_roundg (gk - 1)
            case measure => omega
            case rel => exact ⟨i + 1, by omega, by go_num, HO2, hb4⟩
          | false =>
            have HO2 : Aside (OwnC wf w4.heap.size u16 ((d.take (i + 1)).filter P)) := by
              have h := HMt.out
              rw [hyz, if_neg (by simp), List.append_nil] at h
              unfold Aside
              rw [h]
              exact HOf.out
            clear HMt HOf
            go_wp2
            go_roundg (gk - 1)
            case measure => omega
            case rel => exact ⟨i + 1, by omega, by go_num, HO2, hbw⟩
        · have e1 : d.take i = d := List.take_of_length_le (by rw [D4.out.1]; omega)
          have HO2 : Aside (OwnC wr w4.heap.size u16 (M.left b l m)) := by have h := HO.out; rw [e1, HLft.out] at h; exact h
          obtain ⟨va, vc, hv, hr, hl, hm2⟩ := HO2.out.rc
          obtain ⟨vn, hvn⟩ : ∃ vn, vn = (M.left b l m).length := ⟨_, rfl⟩
          rw [← hvn] at hv hr
          subst hv
          have HVr : Hid (Rc wr va vn (M.left b l m)) := hr
          have q5 : Below w.heap.size w wr := q4.trans (hbel.mono hs4)
          have L5 : Hid (Rd wr la ln (M.mrows b l m)) := L4.out.below hbel (Nat.le_refl _)
          have S25 : Hid (Sl wr a2 n2 c2 l) := S2.out.below q5
          clear e1 hr HO HO2 hvn hl hm2
          go_wp2_with fail
          refine (patch_left _ _ _ _ _ _ _ _ _ _ HE.out HK.out S25.out HVr.out).mono ?_
          rintro e w6 ⟨xa, xn, xc, rfl, r, k1, k2, _, ba⟩
          have hxn : xn ≤ 9223372036854775807 := by unfold maxLen at k2; omega
          have X6 : Hid (Rd w6 xa xn (M.mrows b l m)) := r
          have L6 : Hid (Rd w6 la ln (M.mrows b l m)) := L5.out.below ba (Nat.le_refl _)
          have q6 := below2 q5 ba
          clear r ba k1 k2 L5 S25 HVr q5
          go_wp2_with fail
          refine (begun.out _ q6).mono ?_
          rintro e w7 ⟨rfl, q7, ba⟩
          have X7 : Hid (Rd w7 xa xn (M.mrows b l m)) := X6.out.below ba (Nat.le_refl _)
          have L7 : Hid (Rd w7 la ln (M.mrows b l m)) := L6.out.below ba (Nat.le_refl _)
          clear ba X6 L6 q6
          go_wp2_with fail
          refine (same_any _ _ _ _ _ _ _ _ _ X7.out L7.out hxn).mono ?_
          rintro e w8 ⟨rfl, ba⟩
          have q8 := below2 q7 ba
          go_wp2
          go_ret
          exact ⟨by simp, q8⟩
    · have hcb : decide ((0 : Int) < (cn : Int)) = true := by simp; omega
      go_wp2_with fail
      refine (begun.out _ q3).mono ?_
      rintro e w4 ⟨rfl, q4, _⟩
      go_wp2
      go_ret
      exact ⟨rfl, q4⟩
  · obtain ⟨E, hEE⟩ : ∃ E, E = M.mergeE b l m := ⟨_, rfl⟩
    rw [← hEE] at K hE
    have hEb : (E != 0) = true := by simp [hE]
    have KK : Hid (Calls Try.prog 19 #[.slice a1 n1 c1, .slice a2 n2 c2, .slice a3 n3 c3] w fun e w' => Hands3 w w' (M.mergeV b l m) (M.mergeK b l m) E e) := K
    clear K hE hEE
    go_enter Try.func7, Try.ntmps7
    go_wp2_with fail
    refine KK.out.mono ?_
    rintro e w1 ⟨la, ln, lc, ca, cn, cc, rfl, rl, hlc, hlm, _, rc, hcc, hcm, q1⟩
    have S11 : Hid (Sl w1 a1 n1 c1 b) := S1.out.below q1
    clear rl rc KK hlc hlm hcc hcm
    go_wp2_with fail
    refine (build_any _ _ _ _ _ S11.out).mono ?_
    rintro e w2 ⟨v1, rfl, _, ba⟩
    have q2 := below2 q1 ba
    have S32 : Hid (Sl w2 a3 n3 c3 m) := S3.out.below q2
    clear ba S11 q1
    go_wp2_with fail
    refine (build_any _ _ _ _ _ S32.out).mono ?_
    rintro e w3 ⟨v2, rfl, _, ba⟩
    have q3 := below2 q2 ba
    clear ba S32 q2
    go_wp2_with fail
    refine (begun.out _ q3).mono ?_
    rintro e w4 ⟨rfl, q4, _⟩
    go_wp2
    go_ret
    exact ⟨rfl, q4⟩

set_option maxRecDepth 100000 in
theorem threePatch_lifted (os : Os) (started : os.Started) (H : Type) (enc : TypeId × Value → H) :
    ReturnsInHanded {} Try.checked os 7 .any (Rows.threePatchSpec.pre6 enc Try.prog Try.f7 Rows.threePatchRow.domain false) (Rows.threePatchSpec.post enc Try.prog Try.f7 false true false false) := by
  refine returnsInHanded_of_change (C := Try.checked) ownTry started (by kernel_rfl) Try.func7
    (ChangeSpec.witness6 (enc := enc) (C := Try.checked) false ⟨#[], #[.slice none 0 0, .slice none 0 0, .slice none 0 0], []⟩ 8 (by kernel_rfl) (by kernel_rfl) (by kernel_rfl) (by kernel_rfl)) ?_
  intro W base args ds gs before hval0 hW hcnd _
  have hval : ∀ (j : Nat) t v, Try.f7.params[j]? = some t → args[j]? = some v → Value.okWide Try.prog W .any base t v := hval0
  have hW' := hW
  obtain ⟨p, q, hA0, hV, rfl, hfz, hnd⟩ := hW
  have hA : DataW.TrodAll enc Try.prog W 0 (fun _ => true) true Try.f7.params.toList args.toList ds p := hA0
  rw [Try.params7] at hA hval
  obtain ⟨v0, vs0, d0, ds0, p0, q0, hargs, rfl, rfl, h0, r0⟩ := trodAll_cons hA
  obtain ⟨v1, vs1, d1, ds1, p1, q1, rfl, rfl, rfl, h1, r1⟩ := trodAll_cons r0
  obtain ⟨v2, vs2, d2, ds2, p2, q2, rfl, rfl, rfl, h2, r2⟩ := trodAll_cons r1
  obtain ⟨rfl, rfl, rfl⟩ := trodAll_nil r2
  obtain rfl : args = #[v0, v1, v2] := by cases args; simp_all
  obtain ⟨rfl, rfl⟩ := trodVars_none hV
  obtain ⟨a0, len0, cap0, rfl⟩ := okWide_slice Try.underlying22 (hval 0 22 v0 rfl rfl)
  have k0 := h0
  have lt0 : ∀ x ∈ p0, x.block < W.heap.size := by obtain ⟨m, hm⟩ := k0; exact DataW.trod_lt m _ _ _ hm
  obtain ⟨l0, hrd0, hl0, hm0, hnil0⟩ : ∃ l, Rd W a0 len0 l ∧ len0 ≤ cap0 ∧ cap0 ≤ maxLen ∧ (a0 = none → len0 = 0 ∧ cap0 = 0) := by
    obtain ⟨fuel, hf⟩ := h0
    exact open_rows (by simpa [Value.cells] using hf)
  obtain ⟨a1, len1, cap1, rfl⟩ := okWide_slice Try.underlying22 (hval 1 22 v1 rfl rfl)
  have k1 := h1
  have lt1 : ∀ x ∈ p1, x.block < W.heap.size := by obtain ⟨m, hm⟩ := k1; exact DataW.trod_lt m _ _ _ hm
  obtain ⟨l1, hrd1, hl1, hm1, hnil1⟩ : ∃ l, Rd W a1 len1 l ∧ len1 ≤ cap1 ∧ cap1 ≤ maxLen ∧ (a1 = none → len1 = 0 ∧ cap1 = 0) := by
    obtain ⟨fuel, hf⟩ := h1
    exact open_rows (by simpa [Value.cells] using hf)
  obtain ⟨a2, len2, cap2, rfl⟩ := okWide_slice Try.underlying22 (hval 2 22 v2 rfl rfl)
  have k2 := h2
  have lt2 : ∀ x ∈ p2, x.block < W.heap.size := by obtain ⟨m, hm⟩ := k2; exact DataW.trod_lt m _ _ _ hm
  obtain ⟨l2, hrd2, hl2, hm2, hnil2⟩ : ∃ l, Rd W a2 len2 l ∧ len2 ≤ cap2 ∧ cap2 ≤ maxLen ∧ (a2 = none → len2 = 0 ∧ cap2 = 0) := by
    obtain ⟨fuel, hf⟩ := h2
    exact open_rows (by simpa [Value.cells] using hf)
  clear hA0 hval0
  refine (threePatch_walk a0 a1 a2 len0 len1 len2 cap0 cap1 cap2 l0 l1 l2 W ⟨hrd0, hl0, hm0, hnil0⟩ ⟨hrd1, hl1, hm1, hnil1⟩ ⟨hrd2, hl2, hm2, hnil2⟩).mono fun e W' ⟨he, bel⟩ => ?_
  subst he
  exact ⟨_, rfl, _, _, _, [], _, [], hW', trodAll_mk1 (shut_bool Try.underlying4 _), (trodAll_cons_mk (Below.trod laidTry (by kernel_rfl) (of_decide_eq_true (by kernel_rfl)) k0 bel lt0) (trodAll_cons_mk (Below.trod laidTry (by kernel_rfl) (of_decide_eq_true (by kernel_rfl)) k1 bel lt1) (trodAll_cons_mk (Below.trod laidTry (by kernel_rfl) (of_decide_eq_true (by kernel_rfl)) k2 bel lt2) trodAll_mk0))), rfl, bel.frame _, fun h => by cases h⟩

theorem threePatch_holds : Rows.ThreePatchSaid :=
  OpenClaim.holds_of_wide 7 Try.f7 rfl rfl rfl rfl rfl rfl rfl ⟨rfl, rfl, rfl, rfl, rfl⟩ rfl rfl rfl rfl rfl (by kernel_rfl) Try.func7 (by kernel_rfl)
    (of_decide_eq_true (by kernel_rfl)) (by unfold Func.isWrapper; first | (rw [if_pos (by decide +kernel)]; kernel_rfl) | (rw [if_neg (by decide +kernel)]; exact ⟨rfl, rfl⟩))
    (fun os started H enc _ => threePatch_lifted os started H enc)
#print axioms threePatch_holds
end Go.Proofs.Ytcgpgflnihjpiad
