/- For every repo and every text, the law WireBack returns true and leaves its arguments as they were: what is written is read as it was, if it has not too many bytes, and nothing else is read. No condition. -/
import Derived.Test.YtcgpgflnihjpiagWBg
import Derived.Test.YtcgpgflnihjpiagOpenW
namespace Go.Proofs.Ytcgpgflnihjpiag
open Go.ChangeShapes Go.WideShapes Go.ChangeAt Go.RowKit

theorem wread_both (b : ByteArray) (w : World) (hl : b.size ≤ 9223372036854775807) :
    Calls Try.prog 8 #[.string b] w fun e w' => ∃ xa xn xc ya yn yc G, e = .returned (.tuple #[.agg #[.slice xa xn xc, .slice ya yn yc], .int .i64 G]) ∧ Below w.heap.size w w' ∧
      (G ≠ 0 ∨ (G = 0 ∧ ∃ C H, b = M.str (M.bytesR C H) ∧ M.rchk C H = 0 ∧ RepoV w' xa xn xc C ya yn yc H)) := by
  have e1 := M.str_back b
  have e2 : b.data.toList.length = b.size := by rw [← M.str_size, e1]
  have K := wread_any b.data.toList w (by omega)
  rw [e1] at K
  refine K.mono ?_
  rintro e w' ⟨hb, ⟨_, rfl⟩ | ⟨_, _, rfl⟩ | ⟨_, C, H, v, h, rfl, ho⟩⟩
  · exact ⟨_, _, _, _, _, _, _, rfl, hb, Or.inl (by omega)⟩
  · exact ⟨_, _, _, _, _, _, _, rfl, hb, Or.inl (by omega)⟩
  · obtain ⟨xa, xc, ya, yc, rfl, V⟩ := ho.v
    obtain ⟨h1, h2⟩ := M.readR_inv h
    exact ⟨_, _, _, _, _, _, _, rfl, hb, Or.inr ⟨rfl, C, H, by rw [← h1, e1], h2, V⟩⟩

set_option maxRecDepth 100000 in
set_option maxHeartbeats 8000000 in
theorem wireBack_walk (a : Option Addr) (n cap : Nat) (C : List M.Com) (a2 : Option Addr) (n2 cap2 : Nat) (H : List M.Hd) (b : ByteArray) (w : World) (hV : RepoV w a n cap C a2 n2 cap2 H) (hbs : b.size ≤ 9223372036854775807) :
    Calls Try.prog 4 #[.agg #[.slice a n cap, .slice a2 n2 cap2], .string b] w fun e w' => e = .returned (.bool true) ∧ Below w.heap.size w w' := by
  obtain ⟨p, hp⟩ : ∃ p, p = w.heap.size := ⟨_, rfl⟩
  obtain ⟨W, hW⟩ : ∃ W, W = w.alloc (.cells #[.slice a n cap, .slice a2 n2 cap2] 25) := ⟨_, rfl⟩
  have hb : Below w.heap.size w W := by rw [hW]; exact (Below.refl _ _).alloc (Nat.le_refl _) _
  have hW0 : W.heap[p]? = some (.cells #[.slice a n cap, .slice a2 n2 cap2] 25 (0, 0)) := by rw [hW, hp]; exact heap_alloc_new _ _
  have HVW : Hid (RepoV W a n cap C a2 n2 cap2 H) := hV.later hb
  have HBx : Hid (∀ V, Below W.heap.size W V → V.cell? ⟨p, 0, none⟩ = some (.slice a n cap) ∧ V.cell? ⟨p, 1, none⟩ = some (.slice a2 n2 cap2)) := fun V hV => by
    have blk := (hV.block p (Array.getElem?_eq_some_iff.1 hW0).1).trans hW0
    exact ⟨by rw [cell_of_row _ _ _ _ _ _ blk]; rfl, by rw [cell_of_row _ _ _ _ _ _ blk]; rfl⟩
  obtain ⟨E, hE⟩ : ∃ E, E = M.rchk C H := ⟨_, rfl⟩
  obtain ⟨so, hso⟩ : ∃ so, so = M.str (if M.rchk C H = 0 then M.bytesR C H else []) := ⟨_, rfl⟩
  have K1 := wwrite_any a n cap C a2 n2 cap2 H W HVW.out.cm HVW.out.nm HVW.out.hs HVW.out.hm
  rw [← hso, ← hE] at K1
  have HK1 : Hid (Calls Try.prog 5 #[.agg #[.slice a n cap, .slice a2 n2 cap2]] W fun e w' => e = .returned (.tuple #[.string so, .int .i64 E]) ∧ Below W.heap.size W w') := K1
  have HKB : Hid (∀ V, Calls Try.prog 8 #[.string b] V fun e w' => ∃ xa xn xc ya yn yc G, e = .returned (.tuple #[.agg #[.slice xa xn xc, .slice ya yn yc], .int .i64 G]) ∧ Below V.heap.size V w' ∧
      (G ≠ 0 ∨ (G = 0 ∧ ∃ C H, b = M.str (M.bytesR C H) ∧ M.rchk C H = 0 ∧ RepoV w' xa xn xc C ya yn yc H))) := fun V => wread_both b V hbs
  have hsol : so.size ≤ 100000 := by
    rw [hso, M.str_size]
    split
    · rename_i h; exact M.bytesR_len h
    · simp
  have HE : Hid (E = M.rchk C H) := hE
  have HSo : Hid (so = M.str (if M.rchk C H = 0 then M.bytesR C H else [])) := hso
  have HNC : Hid (C.length = n) := HVW.out.cm.1
  have HNH : Hid (H.length = n2) := HVW.out.hs.1
  have HW : Hid (W = w.alloc (.cells #[.slice a n cap, .slice a2 n2 cap2] 25)) := hW
  have HP : Aside (p = w.heap.size) := hp
  clear hW hp hW0 hV hE hso K1
  go_enter Try.func4, Try.ntmps4
  go_wp2_with fail
  rw [← HW.out, ← HP.out]
  refine HK1.out.mono ?_
  rintro e w1 ⟨rfl, b1⟩
  have c1 := hb.trans (b1.mono hb.size)
  by_cases hE0 : E = 0
  case neg =>
    have hEb : (E == 0) = false := by simp [hE0]
    clear hE0
    go_wp2_with fail
    refine (HKB.out w1).mono ?_
    rintro e y1 ⟨xa, xn, xc, ya, yn, yc, G, rfl, bb, hG⟩
    have d1 := c1.trans (bb.mono c1.size)
    have HG : Hid (G ≠ 0 ∨ (G = 0 ∧ ∃ C H, b = M.str (M.bytesR C H) ∧ M.rchk C H = 0 ∧ RepoV y1 xa xn xc C ya yn yc H)) := hG
    obtain ⟨p9, hp9⟩ : ∃ p, p = y1.heap.size := ⟨_, rfl⟩
    obtain ⟨Y, hY⟩ : ∃ Y, Y = y1.alloc (.cells #[.slice xa xn xc, .slice ya yn yc] 25) := ⟨_, rfl⟩
    have bY : Below y1.heap.size y1 Y := by rw [hY]; exact (Below.refl _ _).alloc (Nat.le_refl _) _
    have dY := d1.trans (bY.mono d1.size)
    have HY : Hid (Y = y1.alloc (.cells #[.slice xa xn xc, .slice ya yn yc] 25)) := hY
    by_cases hG0 : G = 0
    case neg =>
      have hGb : (G != 0) = true := by simp [hG0]
      clear hG0 hY hp9 bY bb hG
      go_wp2_with fail
      rw [← HY.out]
      refine (wbegun_any Y).mono ?_
      rintro e y2 ⟨rfl, b2⟩
      have bZ := dY.trans (b2.mono dY.size)
      clear b2
      go_wp2
      go_ret
      exact ⟨rfl, bZ⟩
    obtain ⟨_, C9, H9, hb9, hr9, V9⟩ := hG.resolve_left (fun h => h hG0)
    subst hG0
    have K9 := wwrite_any xa xn xc C9 ya yn yc H9 Y (V9.later bY).cm (V9.later bY).nm (V9.later bY).hs (V9.later bY).hm
    rw [hr9, if_pos rfl, ← hb9] at K9
    have HK9 : Hid (Calls Try.prog 5 #[.agg #[.slice xa xn xc, .slice ya yn yc]] Y fun e w' => e = .returned (.tuple #[.string b, .int .i64 0]) ∧ Below Y.heap.size Y w') := K9
    clear hG hb9 hr9 V9 K9 hY hp9 bY bb HG
    go_wp2_with fail
    rw [← HY.out]
    refine HK9.out.mono ?_
    rintro e y2 ⟨rfl, b2⟩
    have d2 := dY.trans (b2.mono dY.size)
    clear b2 HK9
    go_wp2_with fail
    refine (wbegun_any y2).mono ?_
    rintro e y3 ⟨rfl, b3⟩
    have bZ := d2.trans (b3.mono d2.size)
    clear b3
    go_wp2
    go_ret
    exact ⟨rfl, bZ⟩
  subst hE0
  have hr : M.rchk C H = 0 := HE.out.symm
  have hsoe : so = M.str (M.bytesR C H) := by rw [HSo.out, if_pos hr]
  have hs63 : so.size ≤ 9223372036854775807 := by omega
  by_cases h4 : so.size ≤ 4096
  case neg =>
    have h4b : decide ((so.size : Int) ≤ 4096) = false := by simp; omega
    clear h4 hr hsoe
    go_wp2_with fail
    refine (HKB.out w1).mono ?_
    rintro e y1 ⟨xa, xn, xc, ya, yn, yc, G, rfl, bb, hG⟩
    have d1 := c1.trans (bb.mono c1.size)
    have HG : Hid (G ≠ 0 ∨ (G = 0 ∧ ∃ C H, b = M.str (M.bytesR C H) ∧ M.rchk C H = 0 ∧ RepoV y1 xa xn xc C ya yn yc H)) := hG
    obtain ⟨p9, hp9⟩ : ∃ p, p = y1.heap.size := ⟨_, rfl⟩
    obtain ⟨Y, hY⟩ : ∃ Y, Y = y1.alloc (.cells #[.slice xa xn xc, .slice ya yn yc] 25) := ⟨_, rfl⟩
    have bY : Below y1.heap.size y1 Y := by rw [hY]; exact (Below.refl _ _).alloc (Nat.le_refl _) _
    have dY := d1.trans (bY.mono d1.size)
    have HY : Hid (Y = y1.alloc (.cells #[.slice xa xn xc, .slice ya yn yc] 25)) := hY
    by_cases hG0 : G = 0
    case neg =>
      have hGb : (G != 0) = true := by simp [hG0]
      clear hG0 hY hp9 bY bb hG
      go_wp2_with fail
      rw [← HY.out]
      refine (wbegun_any Y).mono ?_
      rintro e y2 ⟨rfl, b2⟩
      have bZ := dY.trans (b2.mono dY.size)
      clear b2
      go_wp2
      go_ret
      exact ⟨rfl, bZ⟩
    obtain ⟨_, C9, H9, hb9, hr9, V9⟩ := hG.resolve_left (fun h => h hG0)
    subst hG0
    have K9 := wwrite_any xa xn xc C9 ya yn yc H9 Y (V9.later bY).cm (V9.later bY).nm (V9.later bY).hs (V9.later bY).hm
    rw [hr9, if_pos rfl, ← hb9] at K9
    have HK9 : Hid (Calls Try.prog 5 #[.agg #[.slice xa xn xc, .slice ya yn yc]] Y fun e w' => e = .returned (.tuple #[.string b, .int .i64 0]) ∧ Below Y.heap.size Y w') := K9
    clear hG hb9 hr9 V9 K9 hY hp9 bY bb HG
    go_wp2_with fail
    rw [← HY.out]
    refine HK9.out.mono ?_
    rintro e y2 ⟨rfl, b2⟩
    have d2 := dY.trans (b2.mono dY.size)
    clear b2 HK9
    go_wp2_with fail
    refine (wbegun_any y2).mono ?_
    rintro e y3 ⟨rfl, b3⟩
    have bZ := d2.trans (b3.mono d2.size)
    clear b3
    go_wp2
    go_ret
    exact ⟨rfl, bZ⟩
  have h4b : decide ((so.size : Int) ≤ 4096) = true := by simp; omega
  have K2 := wread_any (M.bytesR C H) w1 (by rw [← M.str_size, ← hsoe]; omega)
  rw [← hsoe] at K2
  have hle : (M.bytesR C H).length ≤ 4096 := by rw [← M.str_size, ← hsoe]; exact h4
  have HK2 : Hid (Calls Try.prog 8 #[.string so] w1 fun e w' => ∃ xa xc ya yc, e = .returned (.tuple #[.agg #[.slice xa n xc, .slice ya n2 yc], .int .i64 0]) ∧ RepoV w' xa n xc C ya n2 yc H ∧ Below w1.heap.size w1 w') := by
    refine K2.mono ?_
    rintro e w' ⟨hb, ⟨h, _⟩ | ⟨_, h, _⟩ | ⟨_, C', H', v, h, rfl, ho⟩⟩
    · omega
    · rw [M.readR_p hr] at h; cases h
    · rw [M.readR_p hr] at h
      simp only [Option.some.injEq, Prod.mk.injEq] at h
      obtain ⟨rfl, rfl⟩ := h
      obtain ⟨xa, xc, ya, yc, rfl, V⟩ := ho.v
      rw [HNC.out, HNH.out] at V ⊢
      exact ⟨_, _, _, _, rfl, V, hb⟩
  clear K2 hle h4 hr hsoe
  go_wp2_with fail
  refine HK2.out.mono ?_
  rintro e w2 ⟨ra, rc, rb, rd, rfl, V2, b2⟩
  have e2 := b1.trans (b2.mono b1.size)
  obtain ⟨p7, hp7⟩ : ∃ p, p = w2.heap.size := ⟨_, rfl⟩
  obtain ⟨X, hX⟩ : ∃ X, X = w2.alloc (.cells #[.slice ra n rc, .slice rb n2 rd] 25) := ⟨_, rfl⟩
  have bX : Below w2.heap.size w2 X := by rw [hX]; exact (Below.refl _ _).alloc (Nat.le_refl _) _
  have eX := e2.trans (bX.mono e2.size)
  have cX := hb.trans (eX.mono hb.size)
  obtain ⟨k0, k1⟩ := HBx.out X eX
  have V7 := V2.later bX
  have V0 := HVW.out.later eX
  have KS : Hid (Calls Try.prog 10 #[.agg #[.slice ra n rc, .slice rb n2 rd], .agg #[.slice a n cap, .slice a2 n2 cap2]] X fun e w' => e = .returned (.bool true) ∧ Below X.heap.size X w') := srepos_yes ra a n rc cap C rb a2 n2 rd cap2 H X V7.cm V0.cm V0.nm V7.hs V0.hs V0.hm
  have HX : Hid (X = w2.alloc (.cells #[.slice ra n rc, .slice rb n2 rd] 25)) := hX
  rw [hX] at k0 k1
  clear hX hp7 bX V2 V7 V0 b2 HK2
  go_wp2_with fail
  rw [← HX.out]
  refine KS.out.mono ?_
  rintro e w3 ⟨rfl, b3⟩
  have c3 := cX.trans (b3.mono cX.size)
  clear b3 KS k0 k1
  go_wp2_with fail
  refine (HKB.out w3).mono ?_
  rintro e y1 ⟨xa, xn, xc, ya, yn, yc, G, rfl, bb, hG⟩
  have d1 := c3.trans (bb.mono c3.size)
  have HG : Hid (G ≠ 0 ∨ (G = 0 ∧ ∃ C H, b = M.str (M.bytesR C H) ∧ M.rchk C H = 0 ∧ RepoV y1 xa xn xc C ya yn yc H)) := hG
  obtain ⟨p9, hp9⟩ : ∃ p, p = y1.heap.size := ⟨_, rfl⟩
  obtain ⟨Y, hY⟩ : ∃ Y, Y = y1.alloc (.cells #[.slice xa xn xc, .slice ya yn yc] 25) := ⟨_, rfl⟩
  have bY : Below y1.heap.size y1 Y := by rw [hY]; exact (Below.refl _ _).alloc (Nat.le_refl _) _
  have dY := d1.trans (bY.mono d1.size)
  have HY : Hid (Y = y1.alloc (.cells #[.slice xa xn xc, .slice ya yn yc] 25)) := hY
  by_cases hG0 : G = 0
  case neg =>
    have hGb : (G != 0) = true := by simp [hG0]
    clear hG0 hY hp9 bY bb hG
    go_wp2_with fail
    rw [← HY.out]
    refine (wbegun_any Y).mono ?_
    rintro e y2 ⟨rfl, b2⟩
    have bZ := dY.trans (b2.mono dY.size)
    clear b2
    go_wp2
    go_ret
    exact ⟨rfl, bZ⟩
  obtain ⟨_, C9, H9, hb9, hr9, V9⟩ := hG.resolve_left (fun h => h hG0)
  subst hG0
  have K9 := wwrite_any xa xn xc C9 ya yn yc H9 Y (V9.later bY).cm (V9.later bY).nm (V9.later bY).hs (V9.later bY).hm
  rw [hr9, if_pos rfl, ← hb9] at K9
  have HK9 : Hid (Calls Try.prog 5 #[.agg #[.slice xa xn xc, .slice ya yn yc]] Y fun e w' => e = .returned (.tuple #[.string b, .int .i64 0]) ∧ Below Y.heap.size Y w') := K9
  clear hG hb9 hr9 V9 K9 hY hp9 bY bb HG
  go_wp2_with fail
  rw [← HY.out]
  refine HK9.out.mono ?_
  rintro e y2 ⟨rfl, b2⟩
  have d2 := dY.trans (b2.mono dY.size)
  clear b2 HK9
  go_wp2_with fail
  refine (wbegun_any y2).mono ?_
  rintro e y3 ⟨rfl, b3⟩
  have bZ := d2.trans (b3.mono d2.size)
  clear b3
  go_wp2
  go_ret
  exact ⟨rfl, bZ⟩
set_option maxRecDepth 100000 in
theorem wireBack_lifted (os : Os) (started : os.Started) (H : Type) (enc : TypeId × Value → H) :
    ReturnsInHanded {} Try.checked os 4 .any (Rows.wireBackSpec.pre6 enc Try.prog Try.f4 Rows.wireBackRow.domain false) (Rows.wireBackSpec.post enc Try.prog Try.f4 false true false false) := by
  refine returnsInHanded_of_change (C := Try.checked) ownTry started (by kernel_rfl) Try.func4
    (ChangeSpec.witness6 (enc := enc) (C := Try.checked) false ⟨#[], #[.agg #[.slice none 0 0, .slice none 0 0], .string ⟨#[]⟩], []⟩ 8 (by kernel_rfl) (by kernel_rfl) (by kernel_rfl) (by kernel_rfl)) ?_
  intro W base args ds gs before hval0 hW hcnd _
  have hval : ∀ (j : Nat) t v, Try.f4.params[j]? = some t → args[j]? = some v → Value.okWide Try.prog W .any base t v := hval0
  have hW' := hW
  obtain ⟨p, q, hA0, hV, rfl, hfz, hnd⟩ := hW
  have hA : DataW.TrodAll enc Try.prog W 0 (fun _ => true) true Try.f4.params.toList args.toList ds p := hA0
  rw [Try.params4] at hA hval
  obtain ⟨v0, vs0, d0, ds0, p0, q0, hargs, rfl, rfl, h0, r0⟩ := trodAll_cons hA
  obtain ⟨v1, vs1, d1, ds1, p1, q1, rfl, rfl, rfl, h1, r1⟩ := trodAll_cons r0
  obtain ⟨rfl, rfl, rfl⟩ := trodAll_nil r1
  obtain rfl : args = #[v0, v1] := by cases args; simp_all
  obtain ⟨rfl, rfl⟩ := trodVars_none hV
  have k0 := h0
  have lt0 : ∀ x ∈ p0, x.block < W.heap.size := by obtain ⟨m, hm⟩ := k0; exact DataW.trod_lt m _ _ _ hm
  obtain ⟨a0, n0, cap0, b0, m0, bap0, C0, L0, rfl, hv0, hcp0, hcm0⟩ := open_repoV (hval 0 25 v0 rfl rfl) h0
  obtain ⟨s1, rfl, rfl, rfl, hs1⟩ := Go.ChangeMaps.open_string Try.underlying9 (hval 1 9 v1 rfl rfl) h1
  clear hA0 hval0
  refine (wireBack_walk a0 n0 cap0 C0 b0 m0 bap0 L0 s1 W hv0 (by have := hs1; unfold maxLen at this; omega)).mono fun e W' ⟨he, bel⟩ => ?_
  subst he
  exact ⟨_, rfl, _, _, _, [], _, [], hW', trodAll_mk1 (shut_bool Try.underlying4 _), (trodAll_cons_mk (Below.trod laidTry (by kernel_rfl) (of_decide_eq_true (by kernel_rfl)) k0 bel lt0) (trodAll_cons_mk (Go.ChangeMaps.shut_string Try.underlying9 hs1) trodAll_mk0)), rfl, bel.frame _, fun h => by cases h⟩

theorem wireBack_holds : Rows.WireBackSaid :=
  OpenClaim.holds_of_wide 4 Try.f4 rfl rfl rfl rfl rfl rfl rfl ⟨rfl, rfl, rfl, rfl, rfl⟩ rfl rfl rfl rfl rfl (by kernel_rfl) Try.func4 (by kernel_rfl)
    (of_decide_eq_true (by kernel_rfl)) (by unfold Func.isWrapper; first | (rw [if_pos (by decide +kernel)]; kernel_rfl) | (rw [if_neg (by decide +kernel)]; exact ⟨rfl, rfl⟩))
    (fun os started H enc _ => wireBack_lifted os started H enc)
#print axioms wireBack_holds
end Go.Proofs.Ytcgpgflnihjpiag
