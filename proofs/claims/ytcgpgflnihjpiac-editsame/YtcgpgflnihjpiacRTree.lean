/- The reference's RowsOf, TreeError and RootOf. -/
import Derived.Test.YtcgpgflnihjpiacTree1
import Derived.Test.YtcgpgflnihjpiacRBuild
namespace Go.Proofs.Ytcgpgflnihjpiac
open Go.RowKit

theorem rowsOf_none (a : Option Addr) (cap : Nat) (w : World) :
    Calls Try.prog 31 #[.slice a 0 cap] w fun e w' => e = .returned (.slice none 0 0) ∧ w' = w := by
  go_enter Try.func31, Try.ntmps31
  go_wp2
  refine wp_loop_rounds 1 ?_
  rw [rounds_succ]
  go_wp2
  go_ret
  exact ⟨rfl, rfl⟩

set_option maxRecDepth 100000 in
set_option maxHeartbeats 4000000 in
theorem rowsOf_some (tb to n cap : Nat) (T : List (List (List (Int × Int)))) (w : World) (hT : TvS w (some ⟨tb, to, none⟩) n cap T) (hn : 0 < n) (hfl : (flat T).length ≤ 900000) :
    Calls Try.prog 31 #[.slice (some ⟨tb, to, none⟩) n cap] w fun e w' => ∃ v, e = .returned v ∧ Own w' w.heap.size v (flat T) ∧ Below w.heap.size w w' := by
  obtain ⟨b', o', e, hB, hc⟩ := hT.1.at hn
  obtain ⟨rfl, rfl⟩ : tb = b' ∧ to = o' := by simpa using e
  obtain ⟨ka, kn, kc, qk, sk⟩ := hc 0 hn
  obtain ⟨U, hU⟩ : ∃ U, U = ground T := ⟨_, rfl⟩
  have sk' : LvS w ka kn kc U := by rw [hU]; exact sk
  have hnm := hT.len
  have hkm := sk.len
  have HFl : Aside (U.flatten.length ≤ 900000) := by unfold Aside; rw [hU]; exact hfl
  have HFF : Aside (flat T = U.flatten) := by unfold Aside; rw [hU]; rfl
  have HSk : Aside (LvS w ka kn kc U) := sk'
  have HUn : Aside (U.length = kn) := sk'.1.1
  have HQk : Aside (∀ W, Below w.heap.size w W → W.cell? ⟨tb, to, none⟩ = some (.slice ka kn kc)) := fun W hW => (hW.cell (p := ⟨tb, to, none⟩) hB).trans qk
  have hni : (0 : Int) < (n : Int) := by omega
  clear hT hc sk sk' qk hU hfl e
  go_enter Try.func31, Try.ntmps31
  go_wp2
  go_loopg [3, 4] kn (fun g v ix ws => ∃ t : Nat, t + g = kn ∧ ix = .int .i64 t ∧ Aside (Own ws w.heap.size v (U.take t).flatten) ∧ Below w.heap.size w ws)
  case atStart => exact ⟨0, by omega, rfl, World.ownsRow_nil _ _ _ _, Below.refl _ _⟩
  case round =>
    obtain ⟨t, htg, rfl, HO, hbel⟩ := hrel
    have hsz := hbel.size
    have hqk := HQk.out wr hbel
    by_cases hlt : t < kn
    · obtain ⟨kb, ko, rfl⟩ : ∃ b o, ka = some ⟨b, o, none⟩ := by
        rcases HSk.out.1.2 with e | ⟨b', o', e, _⟩
        · omega
        · exact ⟨b', o', e⟩
      obtain ⟨hkB, hkc⟩ := HSk.out.1.at (by omega)
      obtain ⟨ya, yn, yc, q2, s2⟩ := hkc t hlt
      obtain ⟨y, hy⟩ : ∃ y, y = U.getD t [] := ⟨_, rfl⟩
      rw [← hy] at s2
      have hq2 : wr.cell? ⟨kb, ko + t, none⟩ = some (.slice ya yn yc) := (hbel.cell (p := ⟨kb, ko + t, none⟩) hkB).trans q2
      have HSy : Aside (Sl wr ya yn yc y) := s2.below hbel
      have hft := flat_take U t (by rw [HUn.out]; exact hlt)
      rw [← hy] at hft
      have HFt : Aside ((U.take (t + 1)).flatten = (U.take t).flatten ++ y) := hft
      have HBg : Aside ((U.take t).flatten.length + yn ≤ 1000000) := by
        unfold Aside
        have e1 := flat_le U (t + 1)
        have e2 := HFl.out
        rw [hft, List.length_append, s2.1.1] at e1
        omega
      have hti : (t : Int) < (kn : Int) := by omega
      clear hkc q2 s2 hy hft
      go_wp2_with (at_builtin; refine append_rd rfl _ _ rfl w.heap.size _ (U.take t).flatten rfl HO.out ya yn yc y rfl HSy.out.1 HSy.out.2.2.2 HBg.out hbel.size ?_)
      intro v' w' ho' hb3
      have HO' : Aside (Own w' w.heap.size v' (U.take (t + 1)).flatten) := by unfold Aside; rw [HFt.out]; exact ho'
      have hb4 := hbel.trans hb3
      clear ho' hb3
      go_wp2
      go_roundg (gk - 1)
      case measure => omega
      case rel => exact ⟨t + 1, by omega, by go_num, HO', hb4⟩
    · obtain rfl : t = kn := by omega
      have HO1 : Aside (Own wr w.heap.size u3 (flat T)) := by
        have h5 := HO.out
        rw [List.take_of_length_le (by rw [HUn.out]; omega), ← HFF.out] at h5
        exact h5
      go_wp2
      go_ret
      exact ⟨_, rfl, HO1.out, hbel⟩

theorem rowsOf_any (a : Option Addr) (n cap : Nat) (T : List (List (List (Int × Int)))) (w : World) (hT : TvS w a n cap T) (hfl : (flat T).length ≤ 900000) :
    Calls Try.prog 31 #[.slice a n cap] w fun e w' => ∃ va vc, e = .returned (.slice va (flat T).length vc) ∧ Own w' w.heap.size (.slice va (flat T).length vc) (flat T) ∧ Sl w' va (flat T).length vc (flat T) ∧ Below w.heap.size w w' := by
  rcases Nat.eq_zero_or_pos n with rfl | hn
  · have e : T = [] := List.eq_nil_of_length_eq_zero hT.1.1
    subst e
    refine (rowsOf_none a cap w).mono ?_
    rintro e w' ⟨rfl, rfl⟩
    exact ⟨none, 0, rfl, World.ownsRow_nil _ _ _ _, ⟨Rd.zero rfl rfl, Nat.le_refl _, by simp [maxLen], fun _ => ⟨rfl, rfl⟩⟩, Below.refl _ _⟩
  · obtain ⟨tb, to, rfl, _⟩ := hT.1.at hn
    refine (rowsOf_some tb to n cap T w hT hn hfl).mono ?_
    rintro e w' ⟨v, rfl, ho, hb⟩
    obtain ⟨va, vc, rfl, hs⟩ := Own.sl ho
    exact ⟨va, vc, rfl, ho, hs, hb⟩

set_option maxHeartbeats 4000000 in
theorem treeError_any (a : Option Addr) (n cap : Nat) (T : List (List (List (Int × Int)))) (w : World) (hT : TvS w a n cap T) (hfl : (flat T).length ≤ 900000) :
    Calls Try.prog 29 #[.slice a n cap] w fun e w' => e = .returned (.int .i64 (treeE T)) ∧ Below w.heap.size w w' := by
  have HR := rowsOf_any a n cap T w hT hfl
  have HT : Aside (TvS w a n cap T) := hT
  have hnm := hT.len
  obtain ⟨l, hl⟩ : ∃ l, l = flat T := ⟨_, rfl⟩
  obtain ⟨L, hL⟩ : ∃ L, L = l.length := ⟨_, rfl⟩
  rw [← hl] at HR hfl
  rw [← hL] at HR hfl
  have HR1 : Aside (Calls Try.prog 31 #[.slice a n cap] w fun e w' => ∃ va vc, e = .returned (.slice va L vc) ∧ Own w' w.heap.size (.slice va L vc) l ∧ Sl w' va L vc l ∧ Below w.heap.size w w') := HR
  by_cases h0 : M.chk l = 0
  · obtain ⟨t, ht⟩ : ∃ t, t = decide (M.build l = T) := ⟨_, rfl⟩
    have HE : Aside (treeE T = if t = true then 0 else 1) := by
      unfold Aside treeE
      rw [← hl, ht]
      by_cases hh : M.build l = T
      · rw [if_pos ⟨h0, hh.symm⟩]; simp [hh]
      · rw [if_neg (fun h => hh h.2.symm)]; simp [hh]
    have HErr : Aside (∀ va vc W, Sl W va L vc l → Calls Try.prog 52 #[.slice va L vc] W fun e w' => e = .returned (.int .i64 0) ∧ Below W.heap.size W w') := fun va vc W hs => by
      have := error_any va L vc l W hs.1 (by omega)
      rwa [h0] at this
    have HBd : Aside (∀ va vc W, Sl W va L vc l → Below w.heap.size w W → Calls Try.prog 32 #[.slice va L vc] W fun e w' => ∃ ba bn bc, e = .returned (.slice ba bn bc) ∧ Aside (Calls Try.prog 12 #[.slice ba bn bc, .slice a n cap] w' fun e w'' => e = .returned (.bool t) ∧ Below w'.heap.size w' w'') ∧ Below W.heap.size W w') := fun va vc W hs hb => by
      refine (rbuild_any va L vc l W hs h0).mono ?_
      rintro e w' ⟨v, rfl, ho, hb2⟩
      obtain ⟨ba, bn, bc, rfl, htv⟩ := ho.tv
      refine ⟨ba, bn, bc, rfl, ?_, hb2⟩
      rw [ht]
      exact tsame_any ba a bn n bc cap (M.build l) T w' htv.1 ((HT.out.below (below2 hb hb2)).1) htv.len
    clear HR h0 hl hL ht hT hfl
    cases t with
    | true =>
      have HE1 : Aside (treeE T = 0) := by unfold Aside; rw [HE.out]; simp
      go_enter Try.func29, Try.ntmps29
      go_wp2_with fail
      refine HR1.out.mono ?_
      rintro e w1 ⟨va, vc, rfl, ho, hs, b1⟩
      have HS : Aside (Sl w1 va L vc l) := hs
      clear ho hs
      go_wp2_with fail
      refine (HErr.out va vc w1 HS.out).mono ?_
      rintro e w2 ⟨rfl, b2⟩
      have q2 := below2 b1 b2
      go_wp2_with fail
      refine (HBd.out va vc w2 (HS.out.below b2) q2).mono ?_
      rintro e w3 ⟨ba, bn, bc, rfl, HSame, b3⟩
      have q3 := below2 q2 b3
      go_wp2_with fail
      refine HSame.out.mono ?_
      rintro e w4 ⟨rfl, b4⟩
      have q4 := below2 q3 b4
      go_wp2
      go_ret
      exact ⟨by rw [HE1.out]; rfl, q4⟩
    | false =>
      have HE1 : Aside (treeE T = 1) := by unfold Aside; rw [HE.out]; simp
      go_enter Try.func29, Try.ntmps29
      go_wp2_with fail
      refine HR1.out.mono ?_
      rintro e w1 ⟨va, vc, rfl, ho, hs, b1⟩
      have HS : Aside (Sl w1 va L vc l) := hs
      clear ho hs
      go_wp2_with fail
      refine (HErr.out va vc w1 HS.out).mono ?_
      rintro e w2 ⟨rfl, b2⟩
      have q2 := below2 b1 b2
      go_wp2_with fail
      refine (HBd.out va vc w2 (HS.out.below b2) q2).mono ?_
      rintro e w3 ⟨ba, bn, bc, rfl, HSame, b3⟩
      have q3 := below2 q2 b3
      go_wp2_with fail
      refine HSame.out.mono ?_
      rintro e w4 ⟨rfl, b4⟩
      have q4 := below2 q3 b4
      go_wp2
      go_ret
      exact ⟨by rw [HE1.out]; rfl, q4⟩
  · have HE : Aside (treeE T = 1) := by unfold Aside treeE; rw [← hl, if_neg (fun h => h0 h.1)]
    obtain ⟨c, hc⟩ : ∃ c, c = M.chk l := ⟨_, rfl⟩
    have HErr : Aside (∀ va vc W, Sl W va L vc l → Calls Try.prog 52 #[.slice va L vc] W fun e w' => e = .returned (.int .i64 c) ∧ Below W.heap.size W w') := fun va vc W hs => by
      rw [hc]; exact error_any va L vc l W hs.1 (by omega)
    have hcb : (c != 0) = true := by rw [hc]; simp [h0]
    clear HR h0 hl hL hT hfl hc
    go_enter Try.func29, Try.ntmps29
    go_wp2_with fail
    refine HR1.out.mono ?_
    rintro e w1 ⟨va, vc, rfl, ho, hs, b1⟩
    have HS : Aside (Sl w1 va L vc l) := hs
    clear ho hs
    go_wp2_with fail
    refine (HErr.out va vc w1 HS.out).mono ?_
    rintro e w2 ⟨rfl, b2⟩
    have q2 := below2 b1 b2
    go_wp2
    go_ret
    exact ⟨by rw [HE.out]; rfl, q2⟩
end Go.Proofs.Ytcgpgflnihjpiac
