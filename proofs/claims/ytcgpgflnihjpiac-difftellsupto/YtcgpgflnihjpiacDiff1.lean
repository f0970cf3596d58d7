/- diff.ground, diff.lastKey, diff.apart. -/
import Derived.Test.YtcgpgflnihjpiacDiff0
import Derived.Test.YtcgpgflnihjpiacMp
namespace Go.Proofs.Ytcgpgflnihjpiac
open Go.RowKit Go.Maps

/-- What the chunks of level 0 of a right tree are. -/
def Gd (G : List (List (Int × Int))) : Prop := M.Ok G.flatten ∧ G.flatten.length ≤ 40 ∧ G.length ≤ 40 ∧ ∀ c ∈ G, c ≠ []
theorem gd_of {T : List (List (List (Int × Int)))} (h : treeE T = 0) : Gd (ground T) := by
  obtain ⟨h1, h2⟩ := treeE_ok h
  have hz := (M.chk_zero _).1 h1
  obtain ⟨_, _, _, hL, _, _⟩ := build_like (flat T) h1
  rw [← h2] at hL
  refine ⟨hz.2, hz.1, ?_, ?_⟩
  · by_cases hT : 0 < T.length
    · exact (hL (ground T) (getD_memT T [] 0 hT)).1
    · have : T = [] := List.eq_nil_of_length_eq_zero (by omega)
      subst this; simp [ground]
  · intro c hc
    by_cases hT : 0 < T.length
    · exact ((hL (ground T) (getD_memT T [] 0 hT)).2 c hc).1
    · have : T = [] := List.eq_nil_of_length_eq_zero (by omega)
      subst this; simp [ground] at hc
theorem Gd.chunk {G : List (List (Int × Int))} (h : Gd G) {c : List (Int × Int)} (hc : c ∈ G) : c.length ≤ 40 := by
  have := (List.sublist_flatten_of_mem hc).length_le
  have := h.2.1
  omega

theorem dground_any (a : Option Addr) (n cap : Nat) (T : List (List (List (Int × Int)))) (w0 w : World) (h : TvS w0 a n cap T) (hb : Below w0.heap.size w0 w) :
    Calls Try.prog 73 #[.slice a n cap] w fun e w' => ∃ a' n' c', e = .returned (.slice a' n' c') ∧ LvS w0 a' n' c' (ground T) ∧ w' = w := by
  by_cases hn : n = 0
  · subst hn
    have hT : T = [] := List.eq_nil_of_length_eq_zero h.1.1
    subst hT
    go_enter Try.func73, Try.ntmps73
    go_wp2
    go_ret
    exact ⟨none, 0, 0, rfl, ⟨⟨rfl, Or.inl rfl⟩, Nat.le_refl _, by simp [maxLen], fun _ => ⟨rfl, rfl⟩⟩, rfl⟩
  · obtain ⟨b, off, rfl, hB, hc⟩ := h.1.at (by omega)
    obtain ⟨a', n', c', q1, s1⟩ := hc 0 (by omega)
    have hnb : ((n : Int) == 0) = false := by simp; omega
    have hnp : (0 : Int) < (n : Int) := by omega
    have q2 : w.cell? ⟨b, off, none⟩ = some (.slice a' n' c') := (hb.cell (p := ⟨b, off, none⟩) hB).trans q1
    have HS : Hid (LvS w0 a' n' c' (ground T)) := s1
    clear h hc q1 s1 hb
    go_enter Try.func73, Try.ntmps73
    go_wp2
    go_ret
    exact ⟨a', n', c', rfl, HS.out, rfl⟩

theorem dlast_any (a : Option Addr) (n cap : Nat) (l : List (Int × Int)) (w : World) (h : Rd w a n l) (hn0 : l ≠ []) (hn : n ≤ 1000) :
    Calls Try.prog 74 #[.slice a n cap] w fun e w' => e = .returned (.int .i64 (M.lk l)) ∧ w' = w := by
  rcases h.cases with ⟨rfl, rfl⟩ | ⟨b, off, rfl, hp, hl, hB, hc⟩
  · exact absurd rfl hn0
  · obtain ⟨m, rfl⟩ : ∃ m, n = m + 1 := ⟨n - 1, by omega⟩
    have c0 := (hc m (by omega)).1
    have e : M.lk l = (l.getD m (0, 0)).1 := by unfold M.lk; rw [hl]; rfl
    rw [e]
    obtain ⟨x, hx⟩ : ∃ x, x = (l.getD m (0, 0)).1 := ⟨_, rfl⟩
    rw [← hx] at c0 ⊢
    have hm1 : (m : Int) < (m : Int) + 1 := by omega
    have hmw : IntKind.i64.wrap (m : Int) = (m : Int) := by rw [IntKind.wrap_i64]; omega
    have hmw2 : IntKind.i64.wrap ((m : Int) + 1 - 1) = (m : Int) := by rw [IntKind.wrap_i64]; omega
    have hmw3 : (m : Int) < ((m + 1 : Nat) : Int) := by omega
    have hm0 : (0 : Int) ≤ (m : Int) := by omega
    clear hc hx e hl h hn0
    go_enter Try.func74, Try.ntmps74
    go_wp2
    go_ret
    exact ⟨rfl, rfl⟩

theorem zeroRows (w : World) : (zeroValue 32).run Try.prog w = .ok (.slice none 0 0) w := by kernel_rfl
/-- Of the chunks P each one's last key has that chunk. -/
def EM (w : World) (f : Int → Option Value) (P : List (List (Int × Int))) : Prop :=
  (∀ x v, f x = some v → ∃ a n c ch, v = .slice a n c ∧ Sl w a n c ch ∧ ch ∈ P ∧ M.lk ch = x) ∧ ∀ ch ∈ P, (f (M.lk ch)).isSome = true
theorem EM.nil (w : World) : EM w (fun _ => none) [] := ⟨fun x v h => by simp at h, fun ch h => by simp at h⟩
theorem EM.more {w : World} {f : Int → Option Value} {P : List (List (Int × Int))} (h : EM w f P) {a : Option Addr} {n c : Nat} {ch : List (Int × Int)} (hs : Sl w a n c ch) : EM w (upd f (M.lk ch) (.slice a n c)) (P ++ [ch]) := by
  refine ⟨fun x v hx => ?_, fun q hq => ?_⟩
  · by_cases e : x = M.lk ch
    · subst e
      rw [upd_same] at hx
      cases hx
      exact ⟨a, n, c, ch, rfl, hs, by simp, rfl⟩
    · rw [upd_other f _ x _ e] at hx
      obtain ⟨a', n', c', ch', r1, r2, r3, r4⟩ := h.1 x v hx
      exact ⟨a', n', c', ch', r1, r2, by simp [r3], r4⟩
  · by_cases e : M.lk q = M.lk ch
    · rw [e, upd_same]; rfl
    · rw [upd_other f _ _ _ e]
      rcases List.mem_append.1 hq with hq | hq
      · exact h.2 q hq
      · have : q = ch := by simpa using hq
        exact absurd (by rw [this]) e

theorem keepOwn {w w' : World} {base : Nat} {v : Value} {l : List (Int × Int)} (h : Own w base v l) (hb : Below w.heap.size w w') : Own w' base v l := by
  obtain ⟨h1, h2⟩ := h
  refine ⟨h1, ?_⟩
  rcases h2 with h2 | ⟨g, cap, cur, hv, hg, hh, r⟩
  · exact Or.inl h2
  · exact Or.inr ⟨g, cap, cur, hv, hg, (hb.block g (Array.getElem?_eq_some_iff.1 hh).1).trans hh, r⟩
theorem monoOwn {w : World} {base base' : Nat} {v : Value} {l : List (Int × Int)} (h : Own w base v l) (hb : base' ≤ base) : Own w base' v l := by
  obtain ⟨h1, h2⟩ := h
  refine ⟨h1, ?_⟩
  rcases h2 with h2 | ⟨g, cap, cur, hv, hg, r⟩
  · exact Or.inl h2
  · exact Or.inr ⟨g, cap, cur, hv, Nat.le_trans hb hg, r⟩
theorem LvS.cells {w : World} {a : Option Addr} {n c : Nat} {LL : List (List (Int × Int))} (h : LvS w a n c LL) (hn : 0 < n) : ∃ b off, a = some ⟨b, off, none⟩ ∧ b < w.heap.size ∧ ∀ i, i < n → ∃ a' n' c', w.cell? ⟨b, off + i, none⟩ = some (.slice a' n' c') ∧ Sl w a' n' c' (LL.getD i []) := by
  rcases h.1.2 with h0 | h0
  · omega
  · exact h0

set_option maxRecDepth 100000 in
set_option maxHeartbeats 16000000 in
theorem apart_any (a1 a2 : Option Addr) (n1 n2 c1 c2 : Nat) (T U : List (List (List (Int × Int)))) (w : World) (h1 : TvS w a1 n1 c1 T) (h2 : TvS w a2 n2 c2 U) (g1 : Gd (ground T)) (g2 : Gd (ground U)) :
    Calls Try.prog 44 #[.slice a1 n1 c1, .slice a2 n2 c2] w fun e w' => ∃ v, e = .returned v ∧ Own w' w.heap.size v (M.apt (ground T) (ground U)) ∧ Below w.heap.size w w' := by
  obtain ⟨W0, hW0⟩ : ∃ W0, W0 = w.alloc (.map #[] 0) := ⟨_, rfl⟩
  have b0 : Below w.heap.size w W0 := by rw [hW0]; exact (Below.refl _ _).alloc (Nat.le_refl _) _
  have HM0 : Aside (Mp W0 w.heap.size 0 (fun _ => none)) := by rw [hW0]; exact Mp.made w
  have HG2 := dground_any a2 n2 c2 U w W0 h2 b0
  have HGG2 : Hid (Calls Try.prog 73 #[.slice a2 n2 c2] W0 fun e w' => ∃ a' n' c', e = .returned (.slice a' n' c') ∧ LvS w a' n' c' (ground U) ∧ w' = W0) := HG2
  have HG1 : Hid (∀ W, Below w.heap.size w W → Calls Try.prog 73 #[.slice a1 n1 c1] W fun e w' => ∃ a' n' c', e = .returned (.slice a' n' c') ∧ LvS w a' n' c' (ground T) ∧ w' = W) := fun W hW => dground_any a1 n1 c1 T w W h1 hW
  obtain ⟨G, hG⟩ : ∃ G, G = ground T := ⟨_, rfl⟩
  obtain ⟨H, hH⟩ : ∃ H, H = ground U := ⟨_, rfl⟩
  rw [← hG] at g1 HG1 ⊢
  rw [← hH] at g2 HGG2 ⊢
  have D1 : Aside (Gd G) := g1
  have D2 : Aside (Gd H) := g2
  have HW0 : Hid (W0 = w.alloc (.map #[] 0)) := hW0
  have hmm := @run_makeMap Try.prog
  clear HG2 h1 h2 hG hH g1 g2 hW0
  go_enter Try.func44, Try.ntmps44
  go_wp2_with fail
  rw [← HW0.out]
  refine HGG2.out.mono ?_
  rintro e w1 ⟨ha, hn, hc, rfl, hlv, hw1⟩
  subst hw1
  have HLv : Aside (LvS w ha hn hc H) := hlv
  have hhn : hn ≤ 40 := by rw [← hlv.1.1]; exact D2.out.2.2.1
  clear hlv HGG2 HW0
  go_wp2
  go_loopg [15] hn (fun g ix wr => ∃ (i c : Nat) (f : Int → Option Value), i + g = hn ∧ ix = .int .i64 i ∧ c ≤ i ∧ Aside (Mp wr w.heap.size c f) ∧ Aside (EM w f (H.take i)) ∧ Below w.heap.size w wr)
  case atStart => exact ⟨0, 0, fun _ => none, by omega, rfl, Nat.le_refl _, HM0, EM.nil _, b0⟩
  case round =>
    obtain ⟨i, c, f, hig, rfl, hci, HM, HE, hbel⟩ := hrel
    by_cases hlt : i < hn
    · have hii : (i : Int) < (hn : Int) := by omega
      obtain ⟨hb, ho, rfl, hhB, hhc⟩ := HLv.out.cells (by omega)
      obtain ⟨xa, xn, xc, q1, s1⟩ := hhc i hlt
      obtain ⟨ch, hch⟩ : ∃ ch, ch = H.getD i [] := ⟨_, rfl⟩
      rw [← hch] at s1
      have hiH : i < H.length := by rw [HLv.out.1.1]; exact hlt
      have hmem : ch ∈ H := by rw [hch]; exact getD_memT H [] i hiH
      have hne := D2.out.2.2.2 ch hmem
      have hxn : xn ≤ 40 := by rw [← s1.1.1]; exact D2.out.chunk hmem
      have hr := M.lk_range D2.out.1 D2.out.2.2.2 hmem
      have cx : wr.cell? ⟨hb, ho + i, none⟩ = some (.slice xa xn xc) := (hbel.cell (p := ⟨hb, ho + i, none⟩) hhB).trans q1
      have K1 := dlast_any xa xn xc ch wr (s1.1.below hbel (Nat.le_refl _)) hne (by omega)
      obtain ⟨ky, hky⟩ : ∃ ky, ky = M.lk ch := ⟨_, rfl⟩
      rw [← hky] at K1 hr
      have KK : Hid (Calls Try.prog 74 #[.slice xa xn xc] wr fun e w' => e = .returned (.int .i64 ky) ∧ w' = wr) := K1
      have HE2 : Aside (EM w (upd f ky (.slice xa xn xc)) (H.take (i + 1))) := by unfold Aside; rw [take_snoc H [] i hiH, ← hch, hky]; exact HE.out.more s1
      have hr0 := hr.1
      have hr1 := hr.2
      clear K1 hhc q1 s1 hch hmem hne hr hky hiH
      go_wp2_with fail
      refine KK.out.mono ?_
      rintro e w2 ⟨rfl, hw2⟩
      subst hw2
      go_wp2_with (at_mapUpdate; refine wp_mp_set rfl _ _ _ 102 32 rfl Try.underlying102 w.heap.size c f rfl HM.out (by omega) ky (.slice xa xn xc) rfl rfl (by omega) (by omega) ?_)
      intro w3 hmp hgr
      have HM3 : Aside (Mp w3 w.heap.size (c + 1) (upd f ky (.slice xa xn xc))) := hmp
      have hb3 : Below w.heap.size w w3 := hbel.grown hgr hbel.size (fun q hq => by cases hq; exact Nat.le_refl _)
      clear hmp hgr
      go_wp2
      go_roundg (gk - 1)
      case measure => omega
      case rel => exact ⟨i + 1, c + 1, _, by omega, by go_num, by omega, HM3, HE2, hb3⟩
    · have eH : H.take i = H := List.take_of_length_le (by rw [HLv.out.1.1]; omega)
      have HE2 : Aside (EM w f H) := by have h := HE.out; rw [eH] at h; exact h
      have hMlt := HM.out.lt
      obtain ⟨w3, hw3⟩ : ∃ w3, w3 = wr := ⟨_, rfl⟩
      rw [← hw3] at HM hbel hMlt
      have HW3 : Hid (w3 = wr) := hw3
      have hs3 := hbel.size
      clear eH HE hw3 HM0
      go_wp2_with fail
      rw [← HW3.out]
      refine (HG1.out w3 hbel).mono ?_
      rintro e w4 ⟨ga, gn, gc, rfl, glv, hw4⟩
      subst hw4
      have HGv : Aside (LvS w ga gn gc G) := glv
      have hgn : gn ≤ 40 := by rw [← glv.1.1]; exact D1.out.2.2.1
      clear glv HG1 HW3
      go_wp2
      go_loopg [8, 27] gn (fun g v ix ws => ∃ j : Nat, j + g = gn ∧ ix = .int .i64 j ∧ Aside (Own ws w4.heap.size v (M.apt (G.take j) H)) ∧ Below w4.heap.size w4 ws)
      case atStart => exact ⟨0, by omega, rfl, World.ownsRow_nil _ _ _ _, Below.refl _ _⟩
      case round =>
        obtain ⟨j, hjg, rfl, HO, hb5⟩ := hrel
        have hbw : Below w.heap.size w wr := hbel.trans (hb5.mono hs3)
        by_cases hjl : j < gn
        · have hji : (j : Int) < (gn : Int) := by omega
          obtain ⟨gb, go, rfl, hgB, hgc⟩ := HGv.out.cells (by omega)
          obtain ⟨xa, xn, xc, q1, s1⟩ := hgc j hjl
          obtain ⟨ch, hch⟩ : ∃ ch, ch = G.getD j [] := ⟨_, rfl⟩
          rw [← hch] at s1
          have hjG : j < G.length := by rw [HGv.out.1.1]; exact hjl
          have hmem : ch ∈ G := by rw [hch]; exact getD_memT G [] j hjG
          have hne := D1.out.2.2.2 ch hmem
          have hxn : xn ≤ 40 := by rw [← s1.1.1]; exact D1.out.chunk hmem
          have hr := M.lk_range D1.out.1 D1.out.2.2.2 hmem
          have cx : wr.cell? ⟨gb, go + j, none⟩ = some (.slice xa xn xc) := (hbw.cell (p := ⟨gb, go + j, none⟩) hgB).trans q1
          have rx := s1.1.below hbw (Nat.le_refl _)
          have K1 := dlast_any xa xn xc ch wr rx hne (by omega)
          obtain ⟨ky, hky⟩ : ∃ ky, ky = M.lk ch := ⟨_, rfl⟩
          rw [← hky] at K1 hr
          have KK : Hid (Calls Try.prog 74 #[.slice xa xn xc] wr fun e w' => e = .returned (.int .i64 ky) ∧ w' = wr) := K1
          have HMr : Aside (Mp wr w.heap.size c f) := HM.out.below hb5 hMlt
          -- what the map has there
          obtain ⟨ua, un, uc, ul, hu, hul, hiff⟩ : ∃ ua un uc ul, (f ky).getD (.slice none 0 0) = .slice ua un uc ∧ Rd wr ua un ul ∧ (ch = ul ↔ ch ∈ H) := by
            cases hf : f ky with
            | none =>
              refine ⟨none, 0, 0, [], rfl, ⟨rfl, Or.inl rfl⟩, ⟨fun e => absurd e hne, fun hm => ?_⟩⟩
              have := HE2.out.2 ch hm
              rw [← hky, hf] at this
              simp at this
            | some v =>
              obtain ⟨ua, un, uc, ul, rfl, hs, hm, hl⟩ := HE2.out.1 ky v hf
              refine ⟨ua, un, uc, ul, rfl, hs.1.below hbw (Nat.le_refl _), ⟨fun e => by rw [e]; exact hm, fun hm2 => ?_⟩⟩
              exact M.lk_inj D2.out.1.2 D2.out.2.2.2 hm2 hm (by rw [← hky]; exact hl.symm)
          have KE := equal_any xa ua xn un xc uc ch ul wr rx hul (by omega)
          obtain ⟨t, ht⟩ : ∃ t, t = decide (ch = ul) := ⟨_, rfl⟩
          rw [← ht] at KE
          have KKE : Hid (Calls Try.prog 75 #[.slice xa xn xc, .slice ua un uc] wr fun e w' => e = .returned (.bool t) ∧ Below wr.heap.size wr w') := KE
          have AT := M.apt_take G H j hjG
          rw [← hch] at AT
          have HAT : Aside (M.apt (G.take (j + 1)) H = M.apt (G.take j) H ++ if ch ∈ H then [] else ch) := AT
          have HU : Aside ((f ky).getD (.slice none 0 0) = .slice ua un uc) := hu
          have HTt : Aside (t = decide (ch = ul)) := ht
          have HIf : Aside (ch = ul ↔ ch ∈ H) := hiff
          have HRx : Aside (Rd w xa xn ch) := s1.1
          have HNx : Aside (xa = none → xn = 0 ∧ xc = 0) := s1.2.2.2
          have hlen : (M.apt (G.take j) H).length ≤ 40 := by
            have e1 := M.apt_len (G.take j) H
            have e2 := flat_le G j
            have e3 := D1.out.2.1
            omega
          have HLe : Aside ((M.apt (G.take j) H).length + xn ≤ 1000000) := by unfold Aside; omega
          have hr0 := hr.1
          have hr1 := hr.2
          clear K1 KE hgc q1 s1 hch hmem hne hr hky hjG rx hu hul hiff ht AT hlen
          go_wp2_with fail
          refine KK.out.mono ?_
          rintro e w5 ⟨rfl, hw5⟩
          subst hw5
          go_wp2_with (at_lookup; refine wp_mp_get rfl _ _ 102 32 rfl Try.underlying102 _ (zeroRows _) w.heap.size c f rfl HMr.out ky _ HU.out rfl (by omega) (by omega) ?_)
          refine KKE.out.mono ?_
          rintro e w6 ⟨rfl, hb6⟩
          have hb7 : Below w4.heap.size w4 w6 := hb5.trans (hb6.mono hb5.size)
          have HO6 : Aside (Own w6 w4.heap.size u8 (M.apt (G.take j) H)) := keepOwn HO.out hb6
          have hbw6 : Below w.heap.size w w6 := hbw.trans (hb6.mono hbw.size)
          have hsz6 := hb7.size
          clear hb6 KKE KK HO
          cases t with
          | true =>
            have hin : ch ∈ H := HIf.out.1 (of_decide_eq_true HTt.out.symm)
            have HO7 : Aside (Own w6 w4.heap.size u8 (M.apt (G.take (j + 1)) H)) := by unfold Aside; rw [HAT.out, if_pos hin, List.append_nil]; exact HO6.out
            clear hin
            go_wp2
            go_roundg (gk - 1)
            case measure => omega
            case rel => exact ⟨j + 1, by omega, by go_num, HO7, hb7⟩
          | false =>
            have hin : ch ∉ H := fun h => of_decide_eq_false HTt.out.symm (HIf.out.2 h)
            have HAT2 : Aside (M.apt (G.take (j + 1)) H = M.apt (G.take j) H ++ ch) := by unfold Aside; rw [HAT.out, if_neg hin]
            have HR6 : Aside (Rd w6 xa xn ch) := HRx.out.below hbw6 (Nat.le_refl _)
            clear hin
            go_wp2_with (at_builtin; refine append_rd rfl _ _ rfl w4.heap.size _ (M.apt (G.take j) H) rfl HO6.out xa xn xc ch rfl HR6.out HNx.out HLe.out (by omega) ?_)
            intro v' w7 ho' hb8
            have HO7 : Aside (Own w7 w4.heap.size v' (M.apt (G.take (j + 1)) H)) := by unfold Aside; rw [HAT2.out]; exact ho'
            have hb9 : Below w4.heap.size w4 w7 := hb7.trans hb8
            clear ho' hb8
            go_wp2
            go_roundg (gk - 1)
            case measure => omega
            case rel => exact ⟨j + 1, by omega, by go_num, HO7, hb9⟩
        · have eG : G.take j = G := List.take_of_length_le (by rw [HGv.out.1.1]; omega)
          have HO7 : Aside (Own wr w4.heap.size u8 (M.apt G H)) := by have h := HO.out; rw [eG] at h; exact h
          clear eG
          go_wp2
          go_ret
          exact ⟨_, rfl, monoOwn HO7.out hs3, hbw⟩
end Go.Proofs.Ytcgpgflnihjpiac
