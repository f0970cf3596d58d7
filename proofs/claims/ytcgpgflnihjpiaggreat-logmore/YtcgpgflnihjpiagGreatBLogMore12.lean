/- For every text and every act, the law LogMore returns true and leaves its arguments as they were: an act that is written behind a log is done to what is recovered from it, or changes nothing. No condition. -/
import Derived.Test.YtcgpgflnihjpiagGreatBLogMore11
namespace Go.Proofs.YtcgpgflnihjpiagGreat
open Go.ChangeShapes Go.WideShapes Go.ChangeAt Go.RowKit

theorem recover_both (l : M.By) (w : World) (hl : l.length ≤ 9223372036854775807) :
    Calls Tryz.prog 9 #[.string (M.str l)] w fun e w' => ∃ xa xn xc ya yn yc N E, e = .returned (.tuple #[.agg #[.slice xa xn xc, .slice ya yn yc], .int .i64 N, .int .i64 E]) ∧ Below w.heap.size w w' ∧
      ((E = 2 ∧ 4096 < l.length) ∨ (E = 0 ∧ l.length ≤ 4096 ∧ N = ((M.rAs 60 l).1.length : Int) ∧ xn = (M.done (M.rAs 60 l).1).1.length ∧ yn = (M.done (M.rAs 60 l).1).2.length ∧ RepoV w' xa xn xc (M.done (M.rAs 60 l).1).1 ya yn yc (M.done (M.rAs 60 l).1).2)) := by
  refine (recover_any l w hl).mono ?_
  rintro e w' ⟨hb, ⟨h, rfl⟩ | ⟨h, v, rfl, ho⟩⟩
  · exact ⟨_, _, _, _, _, _, _, _, rfl, hb, Or.inl ⟨rfl, h⟩⟩
  · obtain ⟨xa, xc, ya, yc, rfl, V⟩ := ho.v
    exact ⟨_, _, _, _, _, _, _, _, rfl, hb, Or.inr ⟨rfl, h, rfl, rfl, rfl, V⟩⟩
theorem replay_both (l : M.By) (w : World) (hl : l.length ≤ 9223372036854775807) :
    Calls Tryz.prog 13 #[.string (M.str l)] w fun e w' => ∃ la ln lc K G, e = .returned (.tuple #[.slice la ln lc, .int .i64 K, .int .i64 G]) ∧ Below w.heap.size w w' ∧ ln ≤ 60 ∧
      ((G = 2 ∧ 4096 < l.length) ∨ (G = 0 ∧ l.length ≤ 4096 ∧ K = ((l.length - (M.rAs 60 l).2.length : Nat) : Int) ∧ ln = (M.rAs 60 l).1.length)) := by
  refine (replay_any l w hl).mono ?_
  rintro e w' ⟨hb, ⟨h, rfl⟩ | ⟨h, v, rfl, ho⟩⟩
  · exact ⟨_, _, _, _, _, rfl, hb, by omega, Or.inl ⟨rfl, h⟩⟩
  · obtain ⟨a, cap, rfl, _⟩ := ho.ac
    exact ⟨_, _, _, _, _, rfl, hb, (M.rAs_len 60 l).1, Or.inr ⟨rfl, h, rfl, rfl⟩⟩

set_option maxRecDepth 100000 in
set_option maxHeartbeats 16000000 in
theorem logMore_walk (t : ByteArray) (x : M.Act) (a3 : Option Addr) (m3 cap3 : Nat) (w : World) (ht : t.size ≤ 9223372036854775807) (hrc : Rc w a3 m3 x.chs) (hm3 : m3 ≤ 9223372036854775807) (hso1 : (M.str x.one).size ≤ 9223372036854775807) (hst1 : (M.str x.two).size ≤ 9223372036854775807) (hrg : ∀ c ∈ x.chs, M.inI c.2.1 ∧ M.inI c.2.2) :
    Calls Tryz.prog 4 #[.string t, actV x a3 m3 cap3] w fun e w' => e = .returned (.bool true) ∧ Below w.heap.size w w' := by
  obtain ⟨l, hl⟩ : ∃ l, l = t.data.toList := ⟨_, rfl⟩
  have htl : M.str l = t := by rw [hl]; exact M.str_self t
  have hsz : t.size = l.length := by rw [← htl, M.str_size]
  have hl63 : l.length ≤ 9223372036854775807 := by omega
  obtain ⟨p, hp⟩ : ∃ p, p = w.heap.size := ⟨_, rfl⟩
  obtain ⟨W, hW⟩ : ∃ W, W = w.alloc (.cells #[.int .i64 x.kind, .string (M.str x.one), .string (M.str x.two), .slice a3 m3 cap3] 30) := ⟨_, rfl⟩
  have hb : Below w.heap.size w W := by rw [hW]; exact (Below.refl _ _).alloc (Nat.le_refl _) _
  have hbox : W.heap[p]? = some (.cells #[.int .i64 x.kind, .string (M.str x.one), .string (M.str x.two), .slice a3 m3 cap3] 30 (0, 0)) := by rw [hW, hp]; exact heap_alloc_new _ _
  have HJ : Hid (∀ V, Below W.heap.size W V → V.heap[p]? = some (.cells #[.int .i64 x.kind, .string (M.str x.one), .string (M.str x.two), .slice a3 m3 cap3] 30 (0, 0))) := fun V hV => (hV.block p (Array.getElem?_eq_some_iff.1 hbox).1).trans hbox
  obtain ⟨ov, hov⟩ : ∃ ov, ov = (M.wA x).2 := ⟨_, rfl⟩
  obtain ⟨sB, hsB⟩ : ∃ sB, sB = M.str (if ov = true then [] else (M.wA x).1) := ⟨_, rfl⟩
  obtain ⟨F, hF⟩ : ∃ F : Int, F = if ov = true then 3 else 0 := ⟨_, rfl⟩
  have KW : Hid (∀ V, Below W.heap.size W V → Calls Tryz.prog 7 #[actV x a3 m3 cap3] V fun e w' => e = .returned (.tuple #[.string sB, .int .i64 F]) ∧ Below V.heap.size V w') := fun V hV => by
    rw [hsB, hF, hov]; exact write_any x a3 m3 cap3 V ((hrc.below hb (Nat.le_refl _)).below hV (Nat.le_refl _)) hm3 (by rw [M.str_size] at hso1; exact hso1) (by rw [M.str_size] at hst1; exact hst1) hrg
  have KD : Hid (∀ (V : World) (a : Option Addr) (n cap : Nat) (C : List M.Com) (a2 : Option Addr) (n2 cap2 : Nat) (H : List M.Hd), Below W.heap.size W V → RepoV V a n cap C a2 n2 cap2 H → Calls Tryz.prog 14 #[.agg #[.slice a n cap, .slice a2 n2 cap2], actV x a3 m3 cap3] V fun e w' => ∃ v, e = .returned (.tuple #[v, .int .i64 (M.doE C H x)]) ∧ RepoOwn w' V.heap.size v (M.doC C H x) (M.doH C H x) ∧ Below V.heap.size V w') := fun V a n cap C a2 n2 cap2 H hV hR => do_any a n cap C a2 n2 cap2 H x a3 m3 cap3 V hR ((hrc.below hb (Nat.le_refl _)).below hV (Nat.le_refl _)) hm3 hso1
  have KC := recover_both l W hl63
  have KR : ∀ V, Calls Tryz.prog 13 #[.string (M.str l)] V _ := fun V => replay_both l V hl63
  rw [htl] at KC KR
  have HKC : Hid (Calls Tryz.prog 9 #[.string t] W fun e w' => ∃ xa xn xc ya yn yc N E, e = .returned (.tuple #[.agg #[.slice xa xn xc, .slice ya yn yc], .int .i64 N, .int .i64 E]) ∧ Below W.heap.size W w' ∧
      ((E = 2 ∧ 4096 < l.length) ∨ (E = 0 ∧ l.length ≤ 4096 ∧ N = ((M.rAs 60 l).1.length : Int) ∧ xn = (M.done (M.rAs 60 l).1).1.length ∧ yn = (M.done (M.rAs 60 l).1).2.length ∧ RepoV w' xa xn xc (M.done (M.rAs 60 l).1).1 ya yn yc (M.done (M.rAs 60 l).1).2))) := KC
  have HKR : Hid (∀ V : World, Calls Tryz.prog 13 #[.string t] V fun e w' => ∃ la ln lc K G, e = .returned (.tuple #[.slice la ln lc, .int .i64 K, .int .i64 G]) ∧ Below V.heap.size V w' ∧ ln ≤ 60 ∧
      ((G = 2 ∧ 4096 < l.length) ∨ (G = 0 ∧ l.length ≤ 4096 ∧ K = ((l.length - (M.rAs 60 l).2.length : Nat) : Int) ∧ ln = (M.rAs 60 l).1.length))) := fun V => by rw [← htl]; exact replay_both l V hl63
  unfold actV at KW KD ⊢
  obtain ⟨kd, hkd⟩ : ∃ kd, kd = x.kind := ⟨_, rfl⟩
  obtain ⟨so, hso⟩ : ∃ so, so = M.str x.one := ⟨_, rfl⟩
  obtain ⟨st, hst⟩ : ∃ st, st = M.str x.two := ⟨_, rfl⟩
  rw [← hkd, ← hso, ← hst] at KW KD HJ ⊢
  rw [← hkd, ← hso, ← hst] at hW
  have HW : Hid (W = w.alloc (.cells #[.int .i64 kd, .string so, .string st, .slice a3 m3 cap3] 30)) := hW
  have HP : Aside (p = w.heap.size) := hp
  have HT : Hid (M.str l = t) := htl
  have HOv : Hid (ov = (M.wA x).2) := hov
  have HSB : Hid (sB = M.str (if ov = true then [] else (M.wA x).1)) := hsB
  have HF : Hid (F = if ov = true then 3 else 0) := hF
  clear hW hp hrc hrg hso1 hst1 hkd hso hst htl hov hsB hF hl KC KR hbox
  go_enter Tryz.func4, Tryz.ntmps4
  go_wp2_with fail
  rw [← HW.out, ← HP.out]
  refine HKC.out.mono ?_
  rintro e v1 ⟨xa, xn, xc, ya, yn, yc, N, E, rfl, bb1, hE⟩
  obtain ⟨X1, hX1⟩ : ∃ X, X = v1.alloc (.cells #[.slice xa xn xc, .slice ya yn yc] 35) := ⟨_, rfl⟩
  obtain ⟨p1, hp1⟩ : ∃ p, p = v1.heap.size := ⟨_, rfl⟩
  have bX1 : Below v1.heap.size v1 X1 := by rw [hX1]; exact (Below.refl _ _).alloc (Nat.le_refl _) _
  have b1 : Below W.heap.size W X1 := dbelow2 bb1 bX1
  have hbx1 : X1.heap[p1]? = some (.cells #[.slice xa xn xc, .slice ya yn yc] 35 (0, 0)) := by rw [hX1, hp1]; exact heap_alloc_new _ _
  have HBx1 : Hid (∀ V, Below X1.heap.size X1 V → V.heap[p1]? = some (.cells #[.slice xa xn xc, .slice ya yn yc] 35 (0, 0))) := fun V hV => (hV.block p1 (Array.getElem?_eq_some_iff.1 hbx1).1).trans hbx1
  have HE : Hid ((E = 2 ∧ 4096 < l.length) ∨ (E = 0 ∧ l.length ≤ 4096 ∧ N = ((M.rAs 60 l).1.length : Int) ∧ xn = (M.done (M.rAs 60 l).1).1.length ∧ yn = (M.done (M.rAs 60 l).1).2.length ∧ RepoV X1 xa xn xc (M.done (M.rAs 60 l).1).1 ya yn yc (M.done (M.rAs 60 l).1).2)) := by
    rcases hE with h | ⟨h1, h2, h3, h4, h5, h6⟩
    · exact Or.inl h
    · exact Or.inr ⟨h1, h2, h3, h4, h5, h6.later bX1⟩
  have HX1 : Hid (X1 = v1.alloc (.cells #[.slice xa xn xc, .slice ya yn yc] 35)) := hX1
  have HP1 : Aside (p1 = v1.heap.size) := hp1
  have blk := HJ.out X1 b1
  have j0 : X1.cell? ⟨p, 0, none⟩ = some (.int .i64 kd) := by rw [cell_of_row _ _ _ _ _ _ blk]; rfl
  have j1 : X1.cell? ⟨p, 1, none⟩ = some (.string so) := by rw [cell_of_row _ _ _ _ _ _ blk]; rfl
  have j2 : X1.cell? ⟨p, 2, none⟩ = some (.string st) := by rw [cell_of_row _ _ _ _ _ _ blk]; rfl
  have j3 : X1.cell? ⟨p, 3, none⟩ = some (.slice a3 m3 cap3) := by rw [cell_of_row _ _ _ _ _ _ blk]; rfl
  rw [hX1] at j0 j1 j2 j3
  clear blk hX1 hp1 bX1 bb1 hE HKC hbx1
  go_wp2_with fail
  rw [← HX1.out, ← HP1.out]
  refine (KW.out X1 b1).mono ?_
  rintro e v2 ⟨rfl, b2⟩
  clear j0 j1 j2 j3
  go_wp2_with fail
  refine (HKR.out v2).mono ?_
  rintro e v3 ⟨la, ln, lc, K, G, rfl, bb3, hln, hG⟩
  have c3 : Below X1.heap.size X1 v3 := dbelow2 b2 bb3
  have b3 : Below W.heap.size W v3 := dbelow2 b1 c3
  have HG : Hid ((G = 2 ∧ 4096 < l.length) ∨ (G = 0 ∧ l.length ≤ 4096 ∧ K = ((l.length - (M.rAs 60 l).2.length : Nat) : Int) ∧ ln = (M.rAs 60 l).1.length)) := hG
  have hbw3 : Below w.heap.size w v3 := hb.trans (b3.mono hb.size)
  obtain ⟨zB, hzB⟩ : ∃ z, z = sB.size := ⟨_, rfl⟩
  have HZ : Aside (zB = sB.size) := hzB
  have hzl : zB ≤ 100000 := by
    rw [hzB, HSB.out, M.str_size]
    split
    · simp
    · have := M.wA_len x x.chs.length
      rw [List.take_of_length_le (Nat.le_refl _)] at this
      unfold M.wA
      omega
  clear bb3 hG b2 KW HKR
  by_cases hE0 : E = 0
  case neg =>
    have hEb : (E != 0) = true := by simp [hE0]
    clear hE0
    go_wp2_with fail
    refine (lbegun_any v3).mono ?_
    rintro e v4 ⟨rfl, b4⟩
    have bZ := dbelow2 hbw3 b4
    clear b4
    go_wp2
    go_ret
    exact ⟨rfl, bZ⟩
  subst hE0
  by_cases hF0 : F = 0
  case neg =>
    have hFb : (F != 0) = true := by simp [hF0]
    clear hF0
    go_wp2_with fail
    refine (lbegun_any v3).mono ?_
    rintro e v4 ⟨rfl, b4⟩
    have bZ := dbelow2 hbw3 b4
    clear b4
    go_wp2
    go_ret
    exact ⟨rfl, bZ⟩
  subst hF0
  by_cases hG0 : G = 0
  case neg =>
    have hGb : (G != 0) = true := by simp [hG0]
    clear hG0
    go_wp2_with fail
    refine (lbegun_any v3).mono ?_
    rintro e v4 ⟨rfl, b4⟩
    have bZ := dbelow2 hbw3 b4
    clear b4
    go_wp2
    go_ret
    exact ⟨rfl, bZ⟩
  subst hG0
  have hs1 : sB.size ≤ 100000 := by rw [← HZ.out]; exact hzl
  have hs63 : sB.size ≤ 9223372036854775807 := by omega
  clear hzl
  obtain ⟨_, hl4, hKK, hlnn⟩ := HG.out.resolve_left (fun h => by omega)
  have HKK : Hid (K = ((l.length - (M.rAs 60 l).2.length : Nat) : Int)) := hKK
  have HLnn : Hid (ln = (M.rAs 60 l).1.length) := hlnn
  clear hKK hlnn
  by_cases hK0 : K = (l.length : Int)
  case neg =>
    have hKb : (K != (l.length : Int)) = true := by simp [hK0]
    clear hK0
    go_wp2_with fail
    refine (lbegun_any v3).mono ?_
    rintro e v4 ⟨rfl, b4⟩
    have bZ := dbelow2 hbw3 b4
    clear b4
    go_wp2
    go_ret
    exact ⟨rfl, bZ⟩
  subst hK0
  by_cases hL0 : ln < 60
  case neg =>
    have hLb : decide ((60 : Int) ≤ (ln : Int)) = true := by simp; omega
    clear hL0
    go_wp2_with fail
    refine (lbegun_any v3).mono ?_
    rintro e v4 ⟨rfl, b4⟩
    have bZ := dbelow2 hbw3 b4
    clear b4
    go_wp2
    go_ret
    exact ⟨rfl, bZ⟩
  have hLb : decide ((60 : Int) ≤ (ln : Int)) = false := by simp; omega
  by_cases hM0 : l.length + sB.size ≤ 4096
  case neg =>
    have hMb : decide ((4096 : Int) < (l.length : Int) + (sB.size : Int)) = true := by simp; omega
    clear hM0
    go_wp2_with fail
    refine (lbegun_any v3).mono ?_
    rintro e v4 ⟨rfl, b4⟩
    have bZ := dbelow2 hbw3 b4
    clear b4
    go_wp2
    go_ret
    exact ⟨rfl, bZ⟩
  have hMb : decide ((4096 : Int) < (l.length : Int) + (sB.size : Int)) = false := by simp; omega
  obtain ⟨_, _, hN, hxn, hyn, hV1⟩ := HE.out.resolve_left (fun h => by omega)
  have hovf : ov ≠ true := by
    intro h
    have := HF.out
    rw [if_pos h] at this
    omega
  obtain ⟨hokx, hpa⟩ := M.wA_yes (x := x) (by rw [← HOv.out]; exact hovf)
  have hsb2 : sB = M.str (M.pA x) := by rw [HSB.out, if_neg hovf, hpa]
  have hcat : t ++ sB = M.str (l ++ M.pA x) := by rw [hsb2, ← HT.out, str_append]
  have hzp : sB.size = (M.pA x).length := by rw [hsb2, M.str_size]
  have hrest : (M.rAs 60 l).2 = [] := by
    have h1 := HKK.out
    have h2 := (M.rAs_len 60 l).2
    exact List.eq_nil_of_length_eq_zero (by omega)
  have hmore := M.rAs_onemore hrest (by rw [← HLnn.out]; exact hL0) hokx
  have K4 := recover_any (l ++ M.pA x) v3 (by rw [List.length_append]; omega)
  have hlen4 : (l ++ M.pA x).length ≤ 4096 := by rw [List.length_append]; omega
  obtain ⟨xs, hxs⟩ : ∃ xs, xs = (M.rAs 60 l).1 := ⟨_, rfl⟩
  rw [← hxs] at hN hxn hyn hV1 hmore
  have hlx : ln = xs.length := by rw [hxs]; exact HLnn.out
  obtain rfl : N = (ln : Int) := by rw [hN, hlx]
  rw [hmore] at K4
  have hsn : M.done (xs ++ [x]) = if M.doE (M.done xs).1 (M.done xs).2 x = 0 then (M.doC (M.done xs).1 (M.done xs).2 x, M.doH (M.done xs).1 (M.done xs).2 x) else M.done xs := M.doneF_snoc _ _ _
  have HSn : Hid (M.done (xs ++ [x]) = if M.doE (M.done xs).1 (M.done xs).2 x = 0 then (M.doC (M.done xs).1 (M.done xs).2 x, M.doH (M.done xs).1 (M.done xs).2 x) else M.done xs) := hsn
  have hn4 : ((xs ++ [x]).length : Int) = (ln : Int) + 1 := by rw [List.length_append, hlx]; simp
  rw [hn4] at K4
  have HK4 : Hid (Calls Tryz.prog 9 #[.string (M.str (l ++ M.pA x))] v3 fun e w' => Below v3.heap.size v3 w' ∧
      ((4096 < (l ++ M.pA x).length ∧ e = .returned (.tuple #[.agg #[.slice none 0 0, .slice none 0 0], .int .i64 0, .int .i64 2])) ∨
       ((l ++ M.pA x).length ≤ 4096 ∧ ∃ v, e = .returned (.tuple #[v, .int .i64 ((ln : Int) + 1), .int .i64 0]) ∧ RepoOwn w' v3.heap.size v (M.done (xs ++ [x])).1 (M.done (xs ++ [x])).2))) := K4
  have HCat : Hid (t ++ sB = M.str (l ++ M.pA x)) := hcat
  have HLen : Hid ((l ++ M.pA x).length ≤ 4096) := hlen4
  have HV1 : Hid (RepoV X1 xa xn xc (M.done xs).1 ya yn yc (M.done xs).2) := hV1
  have HXn : Aside (xn = (M.done xs).1.length) := hxn
  have HYn : Aside (yn = (M.done xs).2.length) := hyn
  clear hN hxn hyn hV1 hovf hokx hpa hsb2 hcat hzp hrest hmore K4 hlen4 hxs hlx hsn hn4 hbw3
  go_wp2_with fail
  rw [HCat.out]
  refine HK4.out.mono ?_
  rintro e v4 ⟨bb4, ⟨h4096, _⟩ | ⟨_, rv, rfl, ho⟩⟩
  · exact absurd HLen.out (by omega)
  obtain ⟨ua, uc, ub, ud, rfl, V4⟩ := ho.v
  obtain ⟨un, hun⟩ : ∃ un, un = (M.done (xs ++ [x])).1.length := ⟨_, rfl⟩
  obtain ⟨uh, huh⟩ : ∃ uh, uh = (M.done (xs ++ [x])).2.length := ⟨_, rfl⟩
  rw [← hun, ← huh] at V4 ⊢
  have HUn : Aside (un = (M.done (xs ++ [x])).1.length) := hun
  have HUh : Aside (uh = (M.done (xs ++ [x])).2.length) := huh
  obtain ⟨X4, hX4⟩ : ∃ X, X = v4.alloc (.cells #[.slice ua un uc, .slice ub uh ud] 35) := ⟨_, rfl⟩
  obtain ⟨p4, hp4⟩ : ∃ p, p = v4.heap.size := ⟨_, rfl⟩
  have bX4 : Below v4.heap.size v4 X4 := by rw [hX4]; exact (Below.refl _ _).alloc (Nat.le_refl _) _
  have HB4 : Hid (KBox X4 p4 ua un uc (M.done (xs ++ [x])).1 ub uh ud (M.done (xs ++ [x])).2) := by rw [hX4, hp4]; exact KBox.new V4
  have q4 : Below v3.heap.size v3 X4 := dbelow2 bb4 bX4
  have c4 : Below X1.heap.size X1 X4 := dbelow2 c3 q4
  have b4 : Below W.heap.size W X4 := dbelow2 b3 q4
  have HX4 : Hid (X4 = v4.alloc (.cells #[.slice ua un uc, .slice ub uh ud] 35)) := hX4
  have HP4 : Aside (p4 = v4.heap.size) := hp4
  have blk := HJ.out X4 b4
  have j0 : X4.cell? ⟨p, 0, none⟩ = some (.int .i64 kd) := by rw [cell_of_row _ _ _ _ _ _ blk]; rfl
  have j1 : X4.cell? ⟨p, 1, none⟩ = some (.string so) := by rw [cell_of_row _ _ _ _ _ _ blk]; rfl
  have j2 : X4.cell? ⟨p, 2, none⟩ = some (.string st) := by rw [cell_of_row _ _ _ _ _ _ blk]; rfl
  have j3 : X4.cell? ⟨p, 3, none⟩ = some (.slice a3 m3 cap3) := by rw [cell_of_row _ _ _ _ _ _ blk]; rfl
  have blk1 := HBx1.out X4 c4
  have k0 : X4.cell? ⟨p1, 0, none⟩ = some (.slice xa xn xc) := by rw [cell_of_row _ _ _ _ _ _ blk1]; rfl
  have k1 : X4.cell? ⟨p1, 1, none⟩ = some (.slice ya yn yc) := by rw [cell_of_row _ _ _ _ _ _ blk1]; rfl
  rw [hX4] at j0 j1 j2 j3 k0 k1
  clear blk blk1 hX4 hp4 hun huh V4 ho bb4 bX4 q4 HK4
  go_wp2_with fail
  rw [← HX4.out, ← HP4.out]
  have HV4 : Hid (RepoV X4 xa xn xc (M.done xs).1 ya yn yc (M.done xs).2) := HV1.out.later c4
  refine (KD.out X4 _ _ _ _ _ _ _ _ b4 HV4.out).mono ?_
  rintro e v5 ⟨r5, rfl, o5, bb5⟩
  obtain ⟨da, dc, ea, ec, rfl, V5⟩ := o5.v
  clear j0 j1 j2 j3 k0 k1
  obtain ⟨E5, hE5⟩ : ∃ E5, E5 = M.doE (M.done xs).1 (M.done xs).2 x := ⟨_, rfl⟩
  have HE5 : Aside (E5 = M.doE (M.done xs).1 (M.done xs).2 x) := hE5
  rw [← hE5]
  have blk1 := HBx1.out v5 (dbelow2 c4 bb5)
  have hp1v : p1 < v5.heap.size := (Array.getElem?_eq_some_iff.1 blk1).1
  clear hE5
  by_cases hD : E5 = 0
  · subst hD
    have hsn := HSn.out
    rw [if_pos HE5.out.symm] at hsn
    have eu : un = (M.doC (M.done xs).1 (M.done xs).2 x).length := by rw [HUn.out, hsn]
    have eh : uh = (M.doH (M.done xs).1 (M.done xs).2 x).length := by rw [HUh.out, hsn]
    rw [← eu, ← eh] at V5 ⊢
    have V5' : RepoV v5 da un dc (M.done (xs ++ [x])).1 ea uh ec (M.done (xs ++ [x])).2 := by rw [hsn]; exact V5
    obtain ⟨X5, hX5⟩ : ∃ X, X = v5.alloc (.cells #[.slice da un dc, .slice ea uh ec] 35) := ⟨_, rfl⟩
    obtain ⟨p5, hp5⟩ : ∃ p, p = v5.heap.size := ⟨_, rfl⟩
    have bX5 : Below v5.heap.size v5 X5 := by rw [hX5]; exact (Below.refl _ _).alloc (Nat.le_refl _) _
    have HB5 : Hid (KBox X5 p5 da un dc (M.done (xs ++ [x])).1 ea uh ec (M.done (xs ++ [x])).2) := by rw [hX5, hp5]; exact KBox.new V5'
    have q45 : Below X4.heap.size X4 X5 := dbelow2 bb5 bX5
    have HX5 : Hid (X5 = v5.alloc (.cells #[.slice da un dc, .slice ea uh ec] 35)) := hX5
    have HP5 : Aside (p5 = v5.heap.size) := hp5
    clear blk1 hX5 hp5 bX5 V5 V5' o5 eu eh hsn bb5
    go_wp2_with fail
    rw [← HX5.out, ← HP5.out]
    refine (lbegun_any X5).mono ?_
    rintro e Y1 ⟨rfl, y1⟩
    have z1 := (HB4.out.later q45).later y1
    have z2 := HB5.out.later y1
    have g0 := z1.c0
    have g1 := z1.c1
    have h0 := z2.c0
    have h1 := z2.c1
    have KS : Hid (Calls Tryz.prog 11 #[.agg #[.slice ua un uc, .slice ub uh ud], .agg #[.slice da un dc, .slice ea uh ec]] Y1 fun e w' => e = .returned (.bool true) ∧ Below Y1.heap.size Y1 w') := srepos_yes ua da un uc dc _ ub ea uh ud ec _ Y1 z1.v.cm z2.v.cm z1.v.nm z1.v.hs z2.v.hs z1.v.hm
    have bY : Below X4.heap.size X4 Y1 := dbelow2 q45 y1
    clear z1 z2 y1
    go_wp2_with fail
    refine KS.out.mono ?_
    rintro e Y2 ⟨rfl, y2⟩
    have bZ : Below w.heap.size w Y2 := hb.trans ((dbelow2 b4 (dbelow2 bY y2)).mono hb.size)
    clear g0 g1 h0 h1 KS y2 bY
    go_wp2
    go_ret
    exact ⟨rfl, bZ⟩
  · have hEb : (E5 != 0) = true := by simp [hD]
    have hsn := HSn.out
    rw [if_neg (by rw [← HE5.out]; exact hD)] at hsn
    have eu : xn = un := by rw [HUn.out, hsn]; exact HXn.out
    have eh : yn = uh := by rw [HUh.out, hsn]; exact HYn.out
    subst eu eh
    obtain ⟨X5, hX5⟩ : ∃ X, X = v5.alloc (.cells #[.slice xa xn xc, .slice ya yn yc] 35) := ⟨_, rfl⟩
    obtain ⟨p5, hp5⟩ : ∃ p, p = v5.heap.size := ⟨_, rfl⟩
    have bX5 : Below v5.heap.size v5 X5 := by rw [hX5]; exact (Below.refl _ _).alloc (Nat.le_refl _) _
    have V5' : RepoV v5 xa xn xc (M.done (xs ++ [x])).1 ya yn yc (M.done (xs ++ [x])).2 := by rw [hsn]; exact HV4.out.later bb5
    have HB5 : Hid (KBox X5 p5 xa xn xc (M.done (xs ++ [x])).1 ya yn yc (M.done (xs ++ [x])).2) := by rw [hX5, hp5]; exact KBox.new V5'
    have q45 : Below X4.heap.size X4 X5 := dbelow2 bb5 bX5
    have HX5 : Hid (X5 = v5.alloc (.cells #[.slice xa xn xc, .slice ya yn yc] 35)) := hX5
    have HP5 : Aside (p5 = v5.heap.size) := hp5
    obtain ⟨n5, hn5⟩ : ∃ n5, n5 = (M.doC (M.done xs).1 (M.done xs).2 x).length := ⟨_, rfl⟩
    obtain ⟨h5, hh5⟩ : ∃ h5, h5 = (M.doH (M.done xs).1 (M.done xs).2 x).length := ⟨_, rfl⟩
    rw [← hn5, ← hh5]
    have k0 : v5.cell? ⟨p1, 0, none⟩ = some (.slice xa xn xc) := by rw [cell_of_row _ _ _ _ _ _ blk1]; rfl
    have k1 : v5.cell? ⟨p1, 1, none⟩ = some (.slice ya yn yc) := by rw [cell_of_row _ _ _ _ _ _ blk1]; rfl
    have k0 : (v5.alloc (.cells #[.slice da n5 dc, .slice ea h5 ec] 35)).cell? ⟨p1, 0, none⟩ = some (.slice xa xn xc) := (((Below.refl v5.heap.size v5).alloc (Nat.le_refl _) _).cell (p := ⟨p1, 0, none⟩) hp1v).trans k0
    have k1 : (v5.alloc (.cells #[.slice da n5 dc, .slice ea h5 ec] 35)).cell? ⟨p1, 1, none⟩ = some (.slice ya yn yc) := (((Below.refl v5.heap.size v5).alloc (Nat.le_refl _) _).cell (p := ⟨p1, 1, none⟩) hp1v).trans k1
    clear blk1 hX5 hp5 bX5 V5 V5' o5 hsn bb5 hD hn5 hh5
    go_wp2_with fail
    rw [← HX5.out, ← HP5.out]
    clear k0 k1
    refine (lbegun_any X5).mono ?_
    rintro e Y1 ⟨rfl, y1⟩
    have z1 := (HB4.out.later q45).later y1
    have z2 := HB5.out.later y1
    have g0 := z1.c0
    have g1 := z1.c1
    have h0 := z2.c0
    have h1 := z2.c1
    have KS : Hid (Calls Tryz.prog 11 #[.agg #[.slice ua xn uc, .slice ub yn ud], .agg #[.slice xa xn xc, .slice ya yn yc]] Y1 fun e w' => e = .returned (.bool true) ∧ Below Y1.heap.size Y1 w') := srepos_yes ua xa xn uc xc _ ub ya yn ud yc _ Y1 z1.v.cm z2.v.cm z1.v.nm z1.v.hs z2.v.hs z1.v.hm
    have bY : Below X4.heap.size X4 Y1 := dbelow2 q45 y1
    clear z1 z2 y1
    go_wp2_with fail
    refine KS.out.mono ?_
    rintro e Y2 ⟨rfl, y2⟩
    have bZ : Below w.heap.size w Y2 := hb.trans ((dbelow2 b4 (dbelow2 bY y2)).mono hb.size)
    clear g0 g1 h0 h1 KS y2 bY
    go_wp2
    go_ret
    exact ⟨rfl, bZ⟩
set_option maxRecDepth 100000 in
theorem logMore_lifted (os : Os) (started : os.Started) (H : Type) (enc : TypeId × Value → H) :
    ReturnsInHanded {} Tryz.checked os 4 .any (Rows.logMoreSpec.pre6 enc Tryz.prog Tryz.f4 Rows.logMoreRow.domain false) (Rows.logMoreSpec.post enc Tryz.prog Tryz.f4 false true false false) := by
  refine returnsInHanded_of_change (C := Tryz.checked) ownTry started (by kernel_rfl) Tryz.func4
    (ChangeSpec.witness6 (enc := enc) (C := Tryz.checked) false ⟨#[], #[.string ⟨#[]⟩, .agg #[.int .i64 0, .string ⟨#[]⟩, .string ⟨#[]⟩, .slice none 0 0]], []⟩ 8 (by kernel_rfl) (by kernel_rfl) (by kernel_rfl) (by kernel_rfl)) ?_
  intro W base args ds gs before hval0 hW hcnd _
  have hval : ∀ (j : Nat) t v, Tryz.f4.params[j]? = some t → args[j]? = some v → Value.okWide Tryz.prog W .any base t v := hval0
  have hW' := hW
  obtain ⟨p, q, hA0, hV, rfl, hfz, hnd⟩ := hW
  have hA : DataW.TrodAll enc Tryz.prog W 0 (fun _ => true) true Tryz.f4.params.toList args.toList ds p := hA0
  rw [Tryz.params4] at hA hval
  obtain ⟨v0, vs0, d0, ds0, p0, q0, hargs, rfl, rfl, h0, r0⟩ := trodAll_cons hA
  obtain ⟨v1, vs1, d1, ds1, p1, q1, rfl, rfl, rfl, h1, r1⟩ := trodAll_cons r0
  obtain ⟨rfl, rfl, rfl⟩ := trodAll_nil r1
  obtain rfl : args = #[v0, v1] := by cases args; simp_all
  obtain ⟨rfl, rfl⟩ := trodVars_none hV
  obtain ⟨s0, rfl, rfl, rfl, hs0⟩ := Go.ChangeMaps.open_string Tryz.underlying9 (hval 0 9 v0 rfl rfl) h0
  have k1 := h1
  have lt1 : ∀ x ∈ p1, x.block < W.heap.size := by obtain ⟨m, hm⟩ := k1; exact DataW.trod_lt m _ _ _ hm
  obtain ⟨x1, a1, m1, cap1, rfl, hrc1, hrg1, hl1, hm1, ho1, ht1⟩ := open_act2 (hval 1 30 v1 rfl rfl) h1
  clear hA0 hval0
  refine (logMore_walk s0 x1 a1 m1 cap1 W (by have := hs0; unfold maxLen at this; omega) hrc1 (by unfold maxLen at hm1; omega) (by unfold maxLen at ho1; omega) (by unfold maxLen at ht1; omega) hrg1).mono fun e W' ⟨he, bel⟩ => ?_
  subst he
  exact ⟨_, rfl, _, _, _, [], _, [], hW', trodAll_mk1 (shut_bool Tryz.underlying4 _), (trodAll_cons_mk (Go.ChangeMaps.shut_string Tryz.underlying9 hs0) (trodAll_cons_mk (Below.trod laidTry (by kernel_rfl) (of_decide_eq_true (by kernel_rfl)) k1 bel lt1) trodAll_mk0)), rfl, bel.frame _, fun h => by cases h⟩

theorem logMore_holds : Rows.LogMoreSaid :=
  OpenClaim.holds_of_wide 4 Tryz.f4 rfl rfl rfl rfl rfl rfl rfl ⟨rfl, rfl, rfl, rfl, rfl⟩ rfl rfl rfl rfl rfl (by kernel_rfl) Tryz.func4 (by kernel_rfl)
    (of_decide_eq_true (by kernel_rfl)) (by unfold Func.isWrapper; first | (rw [if_pos (by decide +kernel)]; kernel_rfl) | (rw [if_neg (by decide +kernel)]; exact ⟨rfl, rfl⟩))
    (fun os started H enc _ => logMore_lifted os started H enc)
#print axioms logMore_holds
end Go.Proofs.YtcgpgflnihjpiagGreat
