/- wireBegun. -/
import Derived.Test.YtcgpgflnihjpiagWWr
import Derived.Test.YtcgpgflnihjpiagWRd
import Derived.Test.YtcgpgflnihjpiagShopV
import Derived.Deep.RegionHeld3
namespace Go.Proofs.Ytcgpgflnihjpiag
open Go.RowKit

theorem M.str_cat (a b : M.By) : M.str a ++ M.str b = M.str (a ++ b) := by
  apply ByteArray.ext
  simp [M.str]
theorem wshop_right : M.rchk crossL shopH = 0 := by decide +kernel
theorem wshop_len : (M.bytesR crossL shopH).length = 41 := by decide +kernel
theorem wshop_more : M.readR (M.bytesR crossL shopH ++ [120]) = none := by
  have h := M.rRe_p (M.right_ok wshop_right) [120]
  have := M.readR_some (l := M.bytesR crossL shopH ++ [120]) h
  rw [this, if_neg (fun h => by simp at h)]
set_option maxRecDepth 100000 in
set_option maxHeartbeats 8000000 in
theorem wbegun_any (w : World) : Calls Try.prog 9 #[] w fun e w' => e = .returned (.bool true) ∧ Below w.heap.size w w' := by
  obtain ⟨s, hs⟩ : ∃ s, s = M.str (M.bytesR crossL shopH) := ⟨_, rfl⟩
  have hsz : s.size = 41 := by rw [hs, M.str_size]; exact wshop_len
  have HCat : Hid (s ++ ⟨#[120]⟩ = M.str (M.bytesR crossL shopH ++ [120])) := by unfold Hid; rw [hs, ← M.str_cat]; rfl
  have KW : Hid (∀ V lo g h, ShopAt V lo g h → Calls Try.prog 5 #[.agg #[.slice (some ⟨g, 0, none⟩) 6 6, .slice (some ⟨h, 0, none⟩) 2 2]] V fun e w' => e = .returned (.tuple #[.string s, .int .i64 0]) ∧ Below V.heap.size V w') := fun V lo g h S => by
    have := wwrite_any (some ⟨g, 0, none⟩) 6 6 crossL (some ⟨h, 0, none⟩) 2 2 shopH V S.v2.cm S.v2.nm S.v2.hs S.v2.hm
    rw [wshop_right, if_pos rfl, ← hs] at this
    exact this
  have KR : Hid (∀ V, Calls Try.prog 8 #[.string s] V fun e w' => ∃ a c b d, e = .returned (.tuple #[.agg #[.slice a 6 c, .slice b 2 d], .int .i64 0]) ∧ RepoV w' a 6 c crossL b 2 d shopH ∧ Below V.heap.size V w') := fun V => by
    rw [hs]
    refine (wread_any (M.bytesR crossL shopH) V (by rw [wshop_len]; omega)).mono ?_
    rintro e w' ⟨hb, ⟨h, _⟩ | ⟨_, h, _⟩ | ⟨_, C, H, v, h, rfl, ho⟩⟩
    · rw [wshop_len] at h; omega
    · rw [M.readR_p wshop_right] at h; cases h
    · rw [M.readR_p wshop_right] at h
      simp only [Option.some.injEq, Prod.mk.injEq] at h
      obtain ⟨rfl, rfl⟩ := h
      obtain ⟨a, c, b, d, rfl, hv⟩ := ho.v
      exact ⟨a, c, b, d, rfl, hv, hb⟩
  have KX : Hid (∀ V, Calls Try.prog 8 #[.string (M.str (M.bytesR crossL shopH ++ [120]))] V fun e w' => e = .returned (.tuple #[.agg #[.slice none 0 0, .slice none 0 0], .int .i64 1]) ∧ Below V.heap.size V w') := fun V => by
    have hl : (M.bytesR crossL shopH ++ [120]).length = 42 := by rw [List.length_append, wshop_len]; rfl
    refine (wread_any (M.bytesR crossL shopH ++ [120]) V (by rw [hl]; omega)).mono ?_
    rintro e w' ⟨hb, ⟨h, _⟩ | ⟨_, _, rfl⟩ | ⟨_, C, H, v, h, _⟩⟩
    · rw [hl] at h; omega
    · exact ⟨rfl, hb⟩
    · rw [wshop_more] at h; cases h
  clear hs
  go_enter Try.func9, Try.ntmps9
  go_wp2_with fail
  refine (shop_any w).mono ?_
  rintro e w1 ⟨g, h, rfl, S1, b1⟩
  have HS1 : Hid (ShopAt w1 w.heap.size g h) := S1
  clear S1
  go_wp2_with fail
  refine (KW.out w1 _ g h HS1.out).mono ?_
  rintro e w2 ⟨rfl, b2⟩
  have c2 := b1.trans (b2.mono b1.size)
  clear b1 b2 KW
  go_wp2_with fail
  refine (KR.out w2).mono ?_
  rintro e w3 ⟨ra, rc, rb, rd, rfl, V3, b3⟩
  have c3 := c2.trans (b3.mono c2.size)
  obtain ⟨p3, hp3⟩ : ∃ p, p = w3.heap.size := ⟨_, rfl⟩
  obtain ⟨X, hX⟩ : ∃ X, X = w3.alloc (.cells #[.slice ra 6 rc, .slice rb 2 rd] 25) := ⟨_, rfl⟩
  have bX : Below w3.heap.size w3 X := by rw [hX]; exact (Below.refl _ _).alloc (Nat.le_refl _) _
  have hX0 : X.heap[p3]? = some (.cells #[.slice ra 6 rc, .slice rb 2 rd] 25 (0, 0)) := by rw [hX, hp3]; exact heap_alloc_new _ _
  have cX := c3.trans (bX.mono c3.size)
  have HVX : Hid (RepoV X ra 6 rc crossL rb 2 rd shopH) := V3.later bX
  have HBX : Hid (∀ V, Below X.heap.size X V → V.cell? ⟨p3, 0, none⟩ = some (.slice ra 6 rc) ∧ V.cell? ⟨p3, 1, none⟩ = some (.slice rb 2 rd)) := fun V hV => by
    have blk := (hV.block p3 (Array.getElem?_eq_some_iff.1 hX0).1).trans hX0
    exact ⟨by rw [cell_of_row _ _ _ _ _ _ blk]; rfl, by rw [cell_of_row _ _ _ _ _ _ blk]; rfl⟩
  have HX : Hid (X = w3.alloc (.cells #[.slice ra 6 rc, .slice rb 2 rd] 25)) := hX
  have HP3 : Aside (p3 = w3.heap.size) := hp3
  clear hX hp3 hX0 bX V3 b3 c2 c3 KR
  go_wp2_with fail
  rw [HCat.out, ← HX.out, ← HP3.out]
  refine (KX.out X).mono ?_
  rintro e w4 ⟨rfl, b4⟩
  obtain ⟨Y, hY⟩ : ∃ Y, Y = w4.alloc (.cells #[.slice none 0 0, .slice none 0 0] 25) := ⟨_, rfl⟩
  have bY : Below w4.heap.size w4 Y := by rw [hY]; exact (Below.refl _ _).alloc (Nat.le_refl _) _
  have dY : Below X.heap.size X Y := b4.trans (bY.mono b4.size)
  have HY : Hid (Y = w4.alloc (.cells #[.slice none 0 0, .slice none 0 0] 25)) := hY
  obtain ⟨k0, k1⟩ := HBX.out Y dY
  have hAn0 : Hid (Y.drew.cell? ⟨p3, 0, none⟩ = some (.slice ra 6 rc) ∧ Y.drew.cell? ⟨p3, 1, none⟩ = some (.slice rb 2 rd)) := HBX.out _ dY.drew
  clear b4 bY hY KX
  go_wp2_with fail
  rw [← HY.out]
  go_region_held3 (fun V => V.cell? ⟨p3, 0, none⟩ = some (.slice ra 6 rc) ∧ V.cell? ⟨p3, 1, none⟩ = some (.slice rb 2 rd)) (first | exact hAnew2.out | exact hAnew.out | exact hAn0.out | exact ⟨k0, k1⟩ | go_keep) (first | (go_at_call 24; refine (shop_any _).mono ?_; rintro e w6 ⟨g6, h6, rfl, S6, b6⟩; have B6 : Hid (Below X.heap.size X w6) := dY.drew.trans (b6.mono dY.drew.size); have hAnew : Hid (w6.cell? ⟨p3, 0, none⟩ = some (.slice ra 6 rc) ∧ w6.cell? ⟨p3, 1, none⟩ = some (.slice rb 2 rd)) := HBX.out w6 B6.out; obtain ⟨j0, j1⟩ := hAnew.out; have HS6 : Hid (ShopAt w6 Y.heap.size g6 h6) := S6; clear S6 b6) | (go_at_call 10; refine (srepos_yes ra (some ⟨g6, 0, none⟩) 6 rc 6 crossL rb (some ⟨h6, 0, none⟩) 2 rd 2 shopH _ (HVX.out.later B6.out).cm HS6.out.cm (by omega) (HVX.out.later B6.out).hs HS6.out.hs (by omega)).mono ?_; rintro e w7 ⟨rfl, b7⟩; have B7 : Hid (Below X.heap.size X w7) := B6.out.trans (b7.mono B6.out.size); have hAnew2 : Hid (w7.cell? ⟨p3, 0, none⟩ = some (.slice ra 6 rc) ∧ w7.cell? ⟨p3, 1, none⟩ = some (.slice rb 2 rd)) := HBX.out w7 B7.out; obtain ⟨i0, i1⟩ := hAnew2.out; clear b7))
  have c9 := cX.trans (B7.out.mono cX.size)
  clear hAnew hAnew2 i0 i1 j0 j1 k0 k1
  go_wp2
  go_ret
  exact ⟨rfl, c9⟩
end Go.Proofs.Ytcgpgflnihjpiag
