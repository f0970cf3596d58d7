/- What must be in any case of work. -/
import Derived.Test.YtcgpgflnihjpiafGreatBWorkRight08
import Derived.Test.YtcgpgflnihjpiafGreatBWorkRight02
import Derived.Deep.AppendLies
import Derived.Laws.AppendOwnNone
import Derived.Test.YtcgpgflnihjpiafGreatBWorkRight04
import Derived.Test.YtcgpgflnihjpiafGreatBWorkRight05
import Derived.Test.YtcgpgflnihjpiafGreatBWorkRight07
namespace Go.Proofs.YtcgpgflnihjpiafGreat
open Go.RowKit

theorem ShopAt.v {w : World} {lo g h : Nat} (S : ShopAt w lo g h) : RepoV w (some ⟨g, 0, none⟩) 6 6 crossL (some ⟨h, 0, none⟩) 2 2 shopH := by
  refine ⟨S.cm, ?_, by omega, S.hs, by omega, fun h => by cases h⟩
  intro b off e i hi x m c hor hx
  cases e
  obtain ⟨f, b1, b2, b3, b4, h1, _⟩ := S.cr
  subst hx
  rw [cell_of_row _ _ _ _ _ _ h1, cell_of_row _ _ _ _ _ _ h1] at hor
  match i, hi with
  | 0, _ => simpa [crossC, eq_comm] using hor
  | 1, _ => simp [crossC] at hor
  | 2, _ => simpa [crossC, eq_comm] using hor
  | 3, _ => simpa [crossC, eq_comm] using hor
  | 4, _ => simpa [crossC, eq_comm] using hor
  | 5, _ => simpa [crossC, eq_comm] using hor

set_option maxRecDepth 100000 in
set_option maxHeartbeats 8000000 in
theorem wbegun_any (w : World) : Calls Tryz.prog 10 #[] w fun e w' => e = .returned (.bool true) ∧ Below w.heap.size w w' := by
  go_enter Tryz.func10, Tryz.ntmps10
  go_wp2_with fail
  refine (shop_any _).mono ?_
  rintro e a0 ⟨g0, h0, rfl, S0, b0⟩
  obtain ⟨A0, hA0⟩ : ∃ A0, A0 = a0.alloc (.cells #[.int .i64 7, .int .i64 0, .int .i64 4] 69) := ⟨_, rfl⟩
  have bA0 : Below a0.heap.size a0 A0 := by rw [hA0]; exact (Below.refl _ _).alloc (Nat.le_refl _) _
  have rc0 : Rc A0 (some ⟨a0.heap.size, 0, none⟩) 1 chA := ⟨rfl, Or.inr ⟨a0.heap.size, 0, rfl, by rw [hA0]; simp, fun i hi => by obtain rfl : i = 0 := (by omega); rw [hA0]; simp [go_sem, chA]⟩⟩
  have HA0 : Hid (A0 = a0.alloc (.cells #[.int .i64 7, .int .i64 0, .int .i64 4] 69)) := hA0
  have K0 := wput_any (some ⟨g0, 0, none⟩) 6 6 crossL (some ⟨h0, 0, none⟩) 2 2 shopH sSide (some ⟨a0.heap.size, 0, none⟩) 1 1 chA A0 (S0.v.later bA0) rc0 (by omega)
  rw [wb1, wb1c, wb1h] at K0
  have KK0 : Hid (Calls Tryz.prog 16 #[.agg #[.slice (some ⟨g0, 0, none⟩) 6 6, .slice (some ⟨h0, 0, none⟩) 2 2], .string ⟨#[115, 105, 100, 101]⟩, .slice (some ⟨a0.heap.size, 0, none⟩) 1 1] A0 fun e w' => ∃ v, e = .returned (.tuple #[v, .int .i64 0]) ∧ RepoOwn w' A0.heap.size v aC aH ∧ Below A0.heap.size A0 w') := K0
  have c0 := dbelow2 (Below.refl w.heap.size w) (dbelow2 b0 bA0)
  clear K0 S0 b0 rc0 hA0 bA0
  go_wp2_with fail
  rw [← HA0.out]
  refine KK0.out.mono ?_
  rintro e v0 ⟨r0, rfl, o0, bb⟩
  obtain ⟨xaA, xcA, yaA, ycA, rfl, V0⟩ := o0.v
  rw [show (aC : List M.Com).length = 7 from by decide +kernel, show (aH : List M.Hd).length = 2 from by decide +kernel] at V0 ⊢
  obtain ⟨X1, hX1⟩ : ∃ X1, X1 = v0.alloc (.cells #[.slice xaA 7 xcA, .slice yaA 2 ycA] 25) := ⟨_, rfl⟩
  obtain ⟨pA, hpA⟩ : ∃ pA, pA = v0.heap.size := ⟨_, rfl⟩
  have bX1 : Below v0.heap.size v0 X1 := by rw [hX1]; exact (Below.refl _ _).alloc (Nat.le_refl _) _
  have HX1 : Hid (X1 = v0.alloc (.cells #[.slice xaA 7 xcA, .slice yaA 2 ycA] 25)) := hX1
  have HP1 : Aside (pA = v0.heap.size) := hpA
  have HBA_X1 : Hid (KBox X1 pA xaA 7 xcA aC yaA 2 ycA aH) := by rw [hX1, hpA]; exact KBox.new V0
  have cx1 := dbelow2 c0 (dbelow2 bb bX1)
  clear c0 bb KK0 o0 V0 bX1 hX1 hpA
  go_wp2_with fail
  rw [← HX1.out, ← HP1.out]
  refine (shop_any _).mono ?_
  rintro e a1 ⟨g1, h1, rfl, S1, b1⟩
  obtain ⟨A1, hA1⟩ : ∃ A1, A1 = a1.alloc (.cells #[.int .i64 7, .int .i64 1, .int .i64 4] 69) := ⟨_, rfl⟩
  have bA1 : Below a1.heap.size a1 A1 := by rw [hA1]; exact (Below.refl _ _).alloc (Nat.le_refl _) _
  have rc1 : Rc A1 (some ⟨a1.heap.size, 0, none⟩) 1 chB := ⟨rfl, Or.inr ⟨a1.heap.size, 0, rfl, by rw [hA1]; simp, fun i hi => by obtain rfl : i = 0 := (by omega); rw [hA1]; simp [go_sem, chB]⟩⟩
  have HA1 : Hid (A1 = a1.alloc (.cells #[.int .i64 7, .int .i64 1, .int .i64 4] 69)) := hA1
  have K1 := wput_any (some ⟨g1, 0, none⟩) 6 6 crossL (some ⟨h1, 0, none⟩) 2 2 shopH sSide (some ⟨a1.heap.size, 0, none⟩) 1 1 chB A1 (S1.v.later bA1) rc1 (by omega)
  rw [wb2, wb2c, wb2h] at K1
  have KK1 : Hid (Calls Tryz.prog 16 #[.agg #[.slice (some ⟨g1, 0, none⟩) 6 6, .slice (some ⟨h1, 0, none⟩) 2 2], .string ⟨#[115, 105, 100, 101]⟩, .slice (some ⟨a1.heap.size, 0, none⟩) 1 1] A1 fun e w' => ∃ v, e = .returned (.tuple #[v, .int .i64 7]) ∧ RepoOwn w' A1.heap.size v [] [] ∧ Below A1.heap.size A1 w') := K1
  have c1 := dbelow2 cx1 (dbelow2 b1 bA1)
  have HBA_A1 : Hid (KBox A1 pA xaA 7 xcA aC yaA 2 ycA aH) := HBA_X1.out.later (dbelow2 b1 bA1)
  clear HBA_X1
  clear K1 S1 b1 rc1 hA1 bA1 cx1
  go_wp2_with fail
  rw [← HA1.out]
  refine KK1.out.mono ?_
  rintro e v1 ⟨r1, rfl, o1, bb⟩
  obtain ⟨xaB, xcB, yaB, ycB, rfl, V1⟩ := o1.v
  rw [show ([] : List M.Com).length = 0 from by decide +kernel, show ([] : List M.Hd).length = 0 from by decide +kernel] at V1 ⊢
  obtain ⟨X2, hX2⟩ : ∃ X2, X2 = v1.alloc (.cells #[.slice xaB 0 xcB, .slice yaB 0 ycB] 25) := ⟨_, rfl⟩
  obtain ⟨pB, hpB⟩ : ∃ pB, pB = v1.heap.size := ⟨_, rfl⟩
  have bX2 : Below v1.heap.size v1 X2 := by rw [hX2]; exact (Below.refl _ _).alloc (Nat.le_refl _) _
  have HX2 : Hid (X2 = v1.alloc (.cells #[.slice xaB 0 xcB, .slice yaB 0 ycB] 25)) := hX2
  have HP2 : Aside (pB = v1.heap.size) := hpB
  have HBB_X2 : Hid (KBox X2 pB xaB 0 xcB [] yaB 0 ycB []) := by rw [hX2, hpB]; exact KBox.new V1
  have cx2 := dbelow2 c1 (dbelow2 bb bX2)
  have HBA_X2 : Hid (KBox X2 pA xaA 7 xcA aC yaA 2 ycA aH) := HBA_A1.out.later (dbelow2 bb bX2)
  clear HBA_A1
  clear c1 bb KK1 o1 V1 bX2 hX2 hpB
  go_wp2_with fail
  rw [← HX2.out, ← HP2.out]
  refine (shop_any _).mono ?_
  rintro e a2 ⟨g2, h2, rfl, S2, b2⟩
  have K2 := wbranch_any (some ⟨g2, 0, none⟩) 6 6 crossL (some ⟨h2, 0, none⟩) 2 2 shopH sNew sSide a2 S2.v (by decide)
  rw [wb3, wb3c, wb3h] at K2
  have KK2 : Hid (Calls Tryz.prog 28 #[.agg #[.slice (some ⟨g2, 0, none⟩) 6 6, .slice (some ⟨h2, 0, none⟩) 2 2], .string ⟨#[110, 101, 119]⟩, .string ⟨#[115, 105, 100, 101]⟩] a2 fun e w' => ∃ v, e = .returned (.tuple #[v, .int .i64 0]) ∧ RepoOwn w' a2.heap.size v crossL bH ∧ Below a2.heap.size a2 w') := K2
  have c2 := dbelow2 cx2 b2
  have HBA_a2 : Hid (KBox a2 pA xaA 7 xcA aC yaA 2 ycA aH) := HBA_X2.out.later b2
  clear HBA_X2
  have HBB_a2 : Hid (KBox a2 pB xaB 0 xcB [] yaB 0 ycB []) := HBB_X2.out.later b2
  clear HBB_X2
  clear K2 S2 b2 cx2
  go_wp2_with fail
  refine KK2.out.mono ?_
  rintro e v2 ⟨r2, rfl, o2, bb⟩
  obtain ⟨xaC, xcC, yaC, ycC, rfl, V2⟩ := o2.v
  rw [show (crossL : List M.Com).length = 6 from by decide +kernel, show (bH : List M.Hd).length = 3 from by decide +kernel] at V2 ⊢
  obtain ⟨X3, hX3⟩ : ∃ X3, X3 = v2.alloc (.cells #[.slice xaC 6 xcC, .slice yaC 3 ycC] 25) := ⟨_, rfl⟩
  obtain ⟨pC, hpC⟩ : ∃ pC, pC = v2.heap.size := ⟨_, rfl⟩
  have bX3 : Below v2.heap.size v2 X3 := by rw [hX3]; exact (Below.refl _ _).alloc (Nat.le_refl _) _
  have HX3 : Hid (X3 = v2.alloc (.cells #[.slice xaC 6 xcC, .slice yaC 3 ycC] 25)) := hX3
  have HP3 : Aside (pC = v2.heap.size) := hpC
  have HBC_X3 : Hid (KBox X3 pC xaC 6 xcC crossL yaC 3 ycC bH) := by rw [hX3, hpC]; exact KBox.new V2
  have cx3 := dbelow2 c2 (dbelow2 bb bX3)
  have HBA_X3 : Hid (KBox X3 pA xaA 7 xcA aC yaA 2 ycA aH) := HBA_a2.out.later (dbelow2 bb bX3)
  clear HBA_a2
  have HBB_X3 : Hid (KBox X3 pB xaB 0 xcB [] yaB 0 ycB []) := HBB_a2.out.later (dbelow2 bb bX3)
  clear HBB_a2
  clear c2 bb KK2 o2 V2 bX3 hX3 hpC
  go_wp2_with fail
  rw [← HX3.out, ← HP3.out]
  refine (shop_any _).mono ?_
  rintro e a3 ⟨g3, h3, rfl, S3, b3⟩
  have K3 := wdrop_any (some ⟨g3, 0, none⟩) 6 6 crossL (some ⟨h3, 0, none⟩) 2 2 shopH sMain a3 S3.v
  rw [wb4, wb4c, wb4h] at K3
  have KK3 : Hid (Calls Tryz.prog 29 #[.agg #[.slice (some ⟨g3, 0, none⟩) 6 6, .slice (some ⟨h3, 0, none⟩) 2 2], .string ⟨#[109, 97, 105, 110]⟩] a3 fun e w' => ∃ v, e = .returned (.tuple #[v, .int .i64 0]) ∧ RepoOwn w' a3.heap.size v crossL cH ∧ Below a3.heap.size a3 w') := K3
  have c3 := dbelow2 cx3 b3
  have HBA_a3 : Hid (KBox a3 pA xaA 7 xcA aC yaA 2 ycA aH) := HBA_X3.out.later b3
  clear HBA_X3
  have HBB_a3 : Hid (KBox a3 pB xaB 0 xcB [] yaB 0 ycB []) := HBB_X3.out.later b3
  clear HBB_X3
  have HBC_a3 : Hid (KBox a3 pC xaC 6 xcC crossL yaC 3 ycC bH) := HBC_X3.out.later b3
  clear HBC_X3
  clear K3 S3 b3 cx3
  go_wp2_with fail
  refine KK3.out.mono ?_
  rintro e v3 ⟨r3, rfl, o3, bb⟩
  obtain ⟨xaD, xcD, yaD, ycD, rfl, V3⟩ := o3.v
  rw [show (crossL : List M.Com).length = 6 from by decide +kernel, show (cH : List M.Hd).length = 1 from by decide +kernel] at V3 ⊢
  obtain ⟨X4, hX4⟩ : ∃ X4, X4 = v3.alloc (.cells #[.slice xaD 6 xcD, .slice yaD 1 ycD] 25) := ⟨_, rfl⟩
  obtain ⟨pD, hpD⟩ : ∃ pD, pD = v3.heap.size := ⟨_, rfl⟩
  have bX4 : Below v3.heap.size v3 X4 := by rw [hX4]; exact (Below.refl _ _).alloc (Nat.le_refl _) _
  have HX4 : Hid (X4 = v3.alloc (.cells #[.slice xaD 6 xcD, .slice yaD 1 ycD] 25)) := hX4
  have HP4 : Aside (pD = v3.heap.size) := hpD
  have HBD_X4 : Hid (KBox X4 pD xaD 6 xcD crossL yaD 1 ycD cH) := by rw [hX4, hpD]; exact KBox.new V3
  have cx4 := dbelow2 c3 (dbelow2 bb bX4)
  have HBA_X4 : Hid (KBox X4 pA xaA 7 xcA aC yaA 2 ycA aH) := HBA_a3.out.later (dbelow2 bb bX4)
  clear HBA_a3
  have HBB_X4 : Hid (KBox X4 pB xaB 0 xcB [] yaB 0 ycB []) := HBB_a3.out.later (dbelow2 bb bX4)
  clear HBB_a3
  have HBC_X4 : Hid (KBox X4 pC xaC 6 xcC crossL yaC 3 ycC bH) := HBC_a3.out.later (dbelow2 bb bX4)
  clear HBC_a3
  clear c3 bb KK3 o3 V3 bX4 hX4 hpD
  have K4 := wmerge_any xaA 7 xcA aC yaA 2 ycA aH sMain sSide X4 HBA_X4.out.v
  rw [wb5, wb5c, wb5h, wb5k] at K4
  have KK4 : Hid (Calls Tryz.prog 14 #[.agg #[.slice xaA 7 xcA, .slice yaA 2 ycA], .string ⟨#[109, 97, 105, 110]⟩, .string ⟨#[115, 105, 100, 101]⟩] X4 fun e w' => ∃ v kb kn kc, e = .returned (.tuple #[v, .slice kb kn kc, .int .i64 7]) ∧ RepoOwn w' X4.heap.size v [] [] ∧ Ri w' kb kn [7] ∧ kn ≤ kc ∧ kc ≤ maxLen ∧ Below X4.heap.size X4 w') := K4
  have c4 := cx4
  clear K4 cx4
  have ya0 := HBA_X4.out.c0
  have ya1 := HBA_X4.out.c1
  rw [HX4.out] at ya0 ya1
  go_wp2_with fail
  rw [← HX4.out, ← HP4.out]
  refine KK4.out.mono ?_
  rintro e v4 ⟨r4, kb4, kn4, kc4, rfl, o4, ri4, kl4, km4, bb⟩
  obtain ⟨xaE, xcE, yaE, ycE, rfl, V4⟩ := o4.v
  rw [show ([] : List M.Com).length = 0 from by decide +kernel, show ([] : List M.Hd).length = 0 from by decide +kernel] at V4 ⊢
  obtain rfl : 1 = kn4 := ri4.1
  obtain ⟨X5, hX5⟩ : ∃ X5, X5 = v4.alloc (.cells #[.slice xaE 0 xcE, .slice yaE 0 ycE] 25) := ⟨_, rfl⟩
  obtain ⟨pE, hpE⟩ : ∃ pE, pE = v4.heap.size := ⟨_, rfl⟩
  have bX5 : Below v4.heap.size v4 X5 := by rw [hX5]; exact (Below.refl _ _).alloc (Nat.le_refl _) _
  have HX5 : Hid (X5 = v4.alloc (.cells #[.slice xaE 0 xcE, .slice yaE 0 ycE] 25)) := hX5
  have HP5 : Aside (pE = v4.heap.size) := hpE
  have HBE_X5 : Hid (KBox X5 pE xaE 0 xcE [] yaE 0 ycE []) := by rw [hX5, hpE]; exact KBox.new V4
  have cx5 := dbelow2 c4 (dbelow2 bb bX5)
  have HBA_X5 : Hid (KBox X5 pA xaA 7 xcA aC yaA 2 ycA aH) := HBA_X4.out.later (dbelow2 bb bX5)
  clear HBA_X4
  have HBB_X5 : Hid (KBox X5 pB xaB 0 xcB [] yaB 0 ycB []) := HBB_X4.out.later (dbelow2 bb bX5)
  clear HBB_X4
  have HBC_X5 : Hid (KBox X5 pC xaC 6 xcC crossL yaC 3 ycC bH) := HBC_X4.out.later (dbelow2 bb bX5)
  clear HBC_X4
  have HBD_X5 : Hid (KBox X5 pD xaD 6 xcD crossL yaD 1 ycD cH) := HBD_X4.out.later (dbelow2 bb bX5)
  clear HBD_X4
  have HKS_X5 : Hid (Ri X5 kb4 1 [7]) := ri4.below bX5 (Nat.le_refl _)
  clear c4 bb KK4 o4 V4 bX5 hX5 hpE ri4 ya0 ya1
  go_wp2_with fail
  rw [← HX5.out, ← HP5.out]
  refine (shop_any _).mono ?_
  rintro e a5 ⟨g5, h5, rfl, S5, b5⟩
  have K5 := wmerge_any (some ⟨g5, 0, none⟩) 6 6 crossL (some ⟨h5, 0, none⟩) 2 2 shopH sMain sSide a5 S5.v
  rw [wb6, wb6c, wb6h, wb6k] at K5
  have KK5 : Hid (Calls Tryz.prog 14 #[.agg #[.slice (some ⟨g5, 0, none⟩) 6 6, .slice (some ⟨h5, 0, none⟩) 2 2], .string ⟨#[109, 97, 105, 110]⟩, .string ⟨#[115, 105, 100, 101]⟩] a5 fun e w' => ∃ v kb kn kc, e = .returned (.tuple #[v, .slice kb kn kc, .int .i64 9]) ∧ RepoOwn w' a5.heap.size v [] [] ∧ Ri w' kb kn [] ∧ kn ≤ kc ∧ kc ≤ maxLen ∧ Below a5.heap.size a5 w') := K5
  have c5 := dbelow2 cx5 b5
  have HBA_a5 : Hid (KBox a5 pA xaA 7 xcA aC yaA 2 ycA aH) := HBA_X5.out.later b5
  clear HBA_X5
  have HBB_a5 : Hid (KBox a5 pB xaB 0 xcB [] yaB 0 ycB []) := HBB_X5.out.later b5
  clear HBB_X5
  have HBC_a5 : Hid (KBox a5 pC xaC 6 xcC crossL yaC 3 ycC bH) := HBC_X5.out.later b5
  clear HBC_X5
  have HBD_a5 : Hid (KBox a5 pD xaD 6 xcD crossL yaD 1 ycD cH) := HBD_X5.out.later b5
  clear HBD_X5
  have HBE_a5 : Hid (KBox a5 pE xaE 0 xcE [] yaE 0 ycE []) := HBE_X5.out.later b5
  clear HBE_X5
  have HKS_a5 : Hid (Ri a5 kb4 1 [7]) := HKS_X5.out.below b5 (Nat.le_refl _)
  clear HKS_X5
  clear K5 S5 b5 cx5
  go_wp2_with fail
  refine KK5.out.mono ?_
  rintro e v5 ⟨r5, kb5, kn5, kc5, rfl, o5, ri5, kl5, km5, bb⟩
  obtain ⟨xaF, xcF, yaF, ycF, rfl, V5⟩ := o5.v
  rw [show ([] : List M.Com).length = 0 from by decide +kernel, show ([] : List M.Hd).length = 0 from by decide +kernel] at V5 ⊢
  obtain ⟨X6, hX6⟩ : ∃ X6, X6 = v5.alloc (.cells #[.slice xaF 0 xcF, .slice yaF 0 ycF] 25) := ⟨_, rfl⟩
  obtain ⟨pF, hpF⟩ : ∃ pF, pF = v5.heap.size := ⟨_, rfl⟩
  have bX6 : Below v5.heap.size v5 X6 := by rw [hX6]; exact (Below.refl _ _).alloc (Nat.le_refl _) _
  have HX6 : Hid (X6 = v5.alloc (.cells #[.slice xaF 0 xcF, .slice yaF 0 ycF] 25)) := hX6
  have HP6 : Aside (pF = v5.heap.size) := hpF
  have HBF_X6 : Hid (KBox X6 pF xaF 0 xcF [] yaF 0 ycF []) := by rw [hX6, hpF]; exact KBox.new V5
  have cx6 := dbelow2 c5 (dbelow2 bb bX6)
  have HBA_X6 : Hid (KBox X6 pA xaA 7 xcA aC yaA 2 ycA aH) := HBA_a5.out.later (dbelow2 bb bX6)
  clear HBA_a5
  have HBB_X6 : Hid (KBox X6 pB xaB 0 xcB [] yaB 0 ycB []) := HBB_a5.out.later (dbelow2 bb bX6)
  clear HBB_a5
  have HBC_X6 : Hid (KBox X6 pC xaC 6 xcC crossL yaC 3 ycC bH) := HBC_a5.out.later (dbelow2 bb bX6)
  clear HBC_a5
  have HBD_X6 : Hid (KBox X6 pD xaD 6 xcD crossL yaD 1 ycD cH) := HBD_a5.out.later (dbelow2 bb bX6)
  clear HBD_a5
  have HBE_X6 : Hid (KBox X6 pE xaE 0 xcE [] yaE 0 ycE []) := HBE_a5.out.later (dbelow2 bb bX6)
  clear HBE_a5
  have HKS_X6 : Hid (Ri X6 kb4 1 [7]) := HKS_a5.out.below (dbelow2 bb bX6) (Nat.le_refl _)
  clear HKS_a5
  clear c5 bb KK5 o5 V5 bX6 hX6 hpF ri5
  go_wp2_with fail
  rw [← HX6.out, ← HP6.out]
  refine (shop_any _).mono ?_
  rintro e a6 ⟨g6, h6, rfl, S6, b6⟩
  have K6 := wmerge_any (some ⟨g6, 0, none⟩) 6 6 crossL (some ⟨h6, 0, none⟩) 2 2 shopH sSide sMain a6 S6.v
  rw [wb7, wb7c, wb7h, wb7k] at K6
  have KK6 : Hid (Calls Tryz.prog 14 #[.agg #[.slice (some ⟨g6, 0, none⟩) 6 6, .slice (some ⟨h6, 0, none⟩) 2 2], .string ⟨#[115, 105, 100, 101]⟩, .string ⟨#[109, 97, 105, 110]⟩] a6 fun e w' => ∃ v kb kn kc, e = .returned (.tuple #[v, .slice kb kn kc, .int .i64 0]) ∧ RepoOwn w' a6.heap.size v crossL xH ∧ Ri w' kb kn [] ∧ kn ≤ kc ∧ kc ≤ maxLen ∧ Below a6.heap.size a6 w') := K6
  have c6 := dbelow2 cx6 b6
  have HBA_a6 : Hid (KBox a6 pA xaA 7 xcA aC yaA 2 ycA aH) := HBA_X6.out.later b6
  clear HBA_X6
  have HBB_a6 : Hid (KBox a6 pB xaB 0 xcB [] yaB 0 ycB []) := HBB_X6.out.later b6
  clear HBB_X6
  have HBC_a6 : Hid (KBox a6 pC xaC 6 xcC crossL yaC 3 ycC bH) := HBC_X6.out.later b6
  clear HBC_X6
  have HBD_a6 : Hid (KBox a6 pD xaD 6 xcD crossL yaD 1 ycD cH) := HBD_X6.out.later b6
  clear HBD_X6
  have HBE_a6 : Hid (KBox a6 pE xaE 0 xcE [] yaE 0 ycE []) := HBE_X6.out.later b6
  clear HBE_X6
  have HBF_a6 : Hid (KBox a6 pF xaF 0 xcF [] yaF 0 ycF []) := HBF_X6.out.later b6
  clear HBF_X6
  have HKS_a6 : Hid (Ri a6 kb4 1 [7]) := HKS_X6.out.below b6 (Nat.le_refl _)
  clear HKS_X6
  clear K6 S6 b6 cx6
  go_wp2_with fail
  refine KK6.out.mono ?_
  rintro e v6 ⟨r6, kb6, kn6, kc6, rfl, o6, ri6, kl6, km6, bb⟩
  obtain ⟨xaG, xcG, yaG, ycG, rfl, V6⟩ := o6.v
  rw [show (crossL : List M.Com).length = 6 from by decide +kernel, show (xH : List M.Hd).length = 2 from by decide +kernel] at V6 ⊢
  obtain ⟨X7, hX7⟩ : ∃ X7, X7 = v6.alloc (.cells #[.slice xaG 6 xcG, .slice yaG 2 ycG] 25) := ⟨_, rfl⟩
  obtain ⟨pG, hpG⟩ : ∃ pG, pG = v6.heap.size := ⟨_, rfl⟩
  have bX7 : Below v6.heap.size v6 X7 := by rw [hX7]; exact (Below.refl _ _).alloc (Nat.le_refl _) _
  have HX7 : Hid (X7 = v6.alloc (.cells #[.slice xaG 6 xcG, .slice yaG 2 ycG] 25)) := hX7
  have HP7 : Aside (pG = v6.heap.size) := hpG
  have HBG_X7 : Hid (KBox X7 pG xaG 6 xcG crossL yaG 2 ycG xH) := by rw [hX7, hpG]; exact KBox.new V6
  have cx7 := dbelow2 c6 (dbelow2 bb bX7)
  have HBA_X7 : Hid (KBox X7 pA xaA 7 xcA aC yaA 2 ycA aH) := HBA_a6.out.later (dbelow2 bb bX7)
  clear HBA_a6
  have HBB_X7 : Hid (KBox X7 pB xaB 0 xcB [] yaB 0 ycB []) := HBB_a6.out.later (dbelow2 bb bX7)
  clear HBB_a6
  have HBC_X7 : Hid (KBox X7 pC xaC 6 xcC crossL yaC 3 ycC bH) := HBC_a6.out.later (dbelow2 bb bX7)
  clear HBC_a6
  have HBD_X7 : Hid (KBox X7 pD xaD 6 xcD crossL yaD 1 ycD cH) := HBD_a6.out.later (dbelow2 bb bX7)
  clear HBD_a6
  have HBE_X7 : Hid (KBox X7 pE xaE 0 xcE [] yaE 0 ycE []) := HBE_a6.out.later (dbelow2 bb bX7)
  clear HBE_a6
  have HBF_X7 : Hid (KBox X7 pF xaF 0 xcF [] yaF 0 ycF []) := HBF_a6.out.later (dbelow2 bb bX7)
  clear HBF_a6
  have HKS_X7 : Hid (Ri X7 kb4 1 [7]) := HKS_a6.out.below (dbelow2 bb bX7) (Nat.le_refl _)
  clear HKS_a6
  clear c6 bb KK6 o6 V6 bX7 hX7 hpG ri6
  go_wp2_with fail
  rw [← HX7.out, ← HP7.out]
  refine (shop_any _).mono ?_
  rintro e a7 ⟨g7, h7, rfl, S7, b7⟩
  have K7 := wput_any (some ⟨g7, 0, none⟩) 6 6 crossL (some ⟨h7, 0, none⟩) 2 2 shopH sSide none 0 0 [] a7 S7.v ⟨rfl, Or.inl rfl⟩ (by omega)
  rw [wb8, wb8c, wb8h] at K7
  have KK7 : Hid (Calls Tryz.prog 16 #[.agg #[.slice (some ⟨g7, 0, none⟩) 6 6, .slice (some ⟨h7, 0, none⟩) 2 2], .string ⟨#[115, 105, 100, 101]⟩, .slice none 0 0] a7 fun e w' => ∃ v, e = .returned (.tuple #[v, .int .i64 9]) ∧ RepoOwn w' a7.heap.size v [] [] ∧ Below a7.heap.size a7 w') := K7
  have c7 := dbelow2 cx7 b7
  have HBA_a7 : Hid (KBox a7 pA xaA 7 xcA aC yaA 2 ycA aH) := HBA_X7.out.later b7
  clear HBA_X7
  have HBB_a7 : Hid (KBox a7 pB xaB 0 xcB [] yaB 0 ycB []) := HBB_X7.out.later b7
  clear HBB_X7
  have HBC_a7 : Hid (KBox a7 pC xaC 6 xcC crossL yaC 3 ycC bH) := HBC_X7.out.later b7
  clear HBC_X7
  have HBD_a7 : Hid (KBox a7 pD xaD 6 xcD crossL yaD 1 ycD cH) := HBD_X7.out.later b7
  clear HBD_X7
  have HBE_a7 : Hid (KBox a7 pE xaE 0 xcE [] yaE 0 ycE []) := HBE_X7.out.later b7
  clear HBE_X7
  have HBF_a7 : Hid (KBox a7 pF xaF 0 xcF [] yaF 0 ycF []) := HBF_X7.out.later b7
  clear HBF_X7
  have HBG_a7 : Hid (KBox a7 pG xaG 6 xcG crossL yaG 2 ycG xH) := HBG_X7.out.later b7
  clear HBG_X7
  have HKS_a7 : Hid (Ri a7 kb4 1 [7]) := HKS_X7.out.below b7 (Nat.le_refl _)
  clear HKS_X7
  clear K7 S7 b7 cx7
  go_wp2_with fail
  refine KK7.out.mono ?_
  rintro e v7 ⟨r7, rfl, o7, bb⟩
  obtain ⟨xaI, xcI, yaI, ycI, rfl, V7⟩ := o7.v
  rw [show ([] : List M.Com).length = 0 from by decide +kernel, show ([] : List M.Hd).length = 0 from by decide +kernel] at V7 ⊢
  obtain ⟨X8, hX8⟩ : ∃ X8, X8 = v7.alloc (.cells #[.slice xaI 0 xcI, .slice yaI 0 ycI] 25) := ⟨_, rfl⟩
  obtain ⟨pI, hpI⟩ : ∃ pI, pI = v7.heap.size := ⟨_, rfl⟩
  have bX8 : Below v7.heap.size v7 X8 := by rw [hX8]; exact (Below.refl _ _).alloc (Nat.le_refl _) _
  have HX8 : Hid (X8 = v7.alloc (.cells #[.slice xaI 0 xcI, .slice yaI 0 ycI] 25)) := hX8
  have HP8 : Aside (pI = v7.heap.size) := hpI
  have HBI_X8 : Hid (KBox X8 pI xaI 0 xcI [] yaI 0 ycI []) := by rw [hX8, hpI]; exact KBox.new V7
  have cx8 := dbelow2 c7 (dbelow2 bb bX8)
  have HBA_X8 : Hid (KBox X8 pA xaA 7 xcA aC yaA 2 ycA aH) := HBA_a7.out.later (dbelow2 bb bX8)
  clear HBA_a7
  have HBB_X8 : Hid (KBox X8 pB xaB 0 xcB [] yaB 0 ycB []) := HBB_a7.out.later (dbelow2 bb bX8)
  clear HBB_a7
  have HBC_X8 : Hid (KBox X8 pC xaC 6 xcC crossL yaC 3 ycC bH) := HBC_a7.out.later (dbelow2 bb bX8)
  clear HBC_a7
  have HBD_X8 : Hid (KBox X8 pD xaD 6 xcD crossL yaD 1 ycD cH) := HBD_a7.out.later (dbelow2 bb bX8)
  clear HBD_a7
  have HBE_X8 : Hid (KBox X8 pE xaE 0 xcE [] yaE 0 ycE []) := HBE_a7.out.later (dbelow2 bb bX8)
  clear HBE_a7
  have HBF_X8 : Hid (KBox X8 pF xaF 0 xcF [] yaF 0 ycF []) := HBF_a7.out.later (dbelow2 bb bX8)
  clear HBF_a7
  have HBG_X8 : Hid (KBox X8 pG xaG 6 xcG crossL yaG 2 ycG xH) := HBG_a7.out.later (dbelow2 bb bX8)
  clear HBG_a7
  have HKS_X8 : Hid (Ri X8 kb4 1 [7]) := HKS_a7.out.below (dbelow2 bb bX8) (Nat.le_refl _)
  clear HKS_a7
  clear c7 bb KK7 o7 V7 bX8 hX8 hpI
  obtain ⟨hab, hao, eyA, _, hA6⟩ := HBA_X8.out.head 1 (by omega)
  rw [show ((aH).getD 1 M.hd0).2 = 6 from by decide +kernel] at hA6
  obtain ⟨cab, cao, x1, n1, c1, x2, m2, c2, exA, hA7, hA8, hRi, hm2⟩ := HBA_X8.out.par 6 (by omega)
  rw [wb1p] at hRi
  obtain rfl : 1 = m2 := hRi.1
  subst eyA exA
  have qa0 := HBA_X8.out.c0
  have qa1 := HBA_X8.out.c1
  have HRi : Hid (Ri X8 x2 1 [1]) := hRi
  clear hRi
  obtain ⟨Y1, hY1⟩ : ∃ Y1, Y1 = X8.alloc (.cells #[.int .i64 1] 3) := ⟨_, rfl⟩
  have bY1 : Below X8.heap.size X8 Y1 := by rw [hY1]; exact (Below.refl _ _).alloc (Nat.le_refl _) _
  obtain ⟨q1, hq1⟩ : ∃ q1, q1 = X8.heap.size := ⟨_, rfl⟩
  have r1 : Ri Y1 (some ⟨q1, 0, none⟩) 1 [1] := ⟨rfl, Or.inr ⟨q1, 0, rfl, by rw [hY1, hq1]; simp, fun i hi => by obtain rfl : i = 0 := (by omega); rw [hY1, hq1]; simp [go_sem]⟩⟩
  have KS1 : Hid (Calls Tryz.prog 31 #[.slice x2 1 c2, .slice (some ⟨q1, 0, none⟩) 1 1] Y1 fun e w' => e = .returned (.bool true) ∧ ∃ m, w' = Y1.drewN m) := isame_yes x2 (some ⟨q1, 0, none⟩) 1 c2 1 [1] Y1 (HRi.out.below bY1 (Nat.le_refl _)) r1 (by omega)
  have HY1 : Hid (Y1 = X8.alloc (.cells #[.int .i64 1] 3)) := hY1
  have HQ1 : Aside (q1 = v7.heap.size + 1) := by unfold Aside; rw [hq1, HX8.out]; simp
  rw [HX8.out] at qa0 qa1 hA6 hA7 hA8
  clear hY1 hq1 r1
  go_wp2_with fail
  rw [← HX8.out, ← HY1.out, ← HQ1.out, ← HP8.out]
  refine KS1.out.mono ?_
  rintro e Y2 ⟨rfl, m1, hY2⟩
  have bY2 : Below X8.heap.size X8 Y2 := by rw [hY2]; exact below_drewN bY1 m1
  have cy := dbelow2 cx8 bY2
  have HC2 := HBC_X8.out.later bY2
  have HD2 := HBD_X8.out.later bY2
  have HE2 : Hid (KBox Y2 pE xaE 0 xcE [] yaE 0 ycE []) := HBE_X8.out.later bY2
  have HG2 : Hid (KBox Y2 pG xaG 6 xcG crossL yaG 2 ycG xH) := HBG_X8.out.later bY2
  have HK2 : Hid (Ri Y2 kb4 1 [7]) := HKS_X8.out.below bY2 (Nat.le_refl _)
  obtain ⟨hcb, hco, eyC, hC1, _⟩ := HC2.head 1 (by omega)
  rw [show ((bH).getD 1 M.hd0).1 = (⟨#[110, 101, 119]⟩ : ByteArray) from by decide +kernel] at hC1
  subst eyC
  have qc1 := HC2.c1
  have qd1 := HD2.c1
  obtain ⟨Y3, hY3⟩ : ∃ Y3, Y3 = Y2.alloc (.cells #[.int .i64 7] 3) := ⟨_, rfl⟩
  have bY3 : Below Y2.heap.size Y2 Y3 := by rw [hY3]; exact (Below.refl _ _).alloc (Nat.le_refl _) _
  have r3 : Ri Y3 (some ⟨Y2.heap.size, 0, none⟩) 1 [7] := ⟨rfl, Or.inr ⟨Y2.heap.size, 0, rfl, by rw [hY3]; simp, fun i hi => by obtain rfl : i = 0 := (by omega); rw [hY3]; simp [go_sem]⟩⟩
  have KS3 : Hid (Calls Tryz.prog 31 #[.slice kb4 1 kc4, .slice (some ⟨Y2.heap.size, 0, none⟩) 1 1] Y3 fun e w' => e = .returned (.bool true) ∧ ∃ m, w' = Y3.drewN m) := isame_yes kb4 (some ⟨Y2.heap.size, 0, none⟩) 1 kc4 1 [7] Y3 (HK2.out.below bY3 (Nat.le_refl _)) r3 (by omega)
  have HY3 : Hid (Y3 = Y2.alloc (.cells #[.int .i64 7] 3)) := hY3
  clear hY3 r3 hY2 bY2 bY1 HC2 HD2 qa0 qa1 hA6 hA7 hA8 KS1 HRi cx8
  go_wp2_with fail
  rw [← HY3.out]
  refine KS3.out.mono ?_
  rintro e Y4 ⟨rfl, m3, hY4⟩
  have bY4 : Below Y2.heap.size Y2 Y4 := by rw [hY4]; exact below_drewN bY3 m3
  have cz := dbelow2 cy bY4
  have HE4 := HE2.out.later bY4
  have HG4 := HG2.out.later bY4
  have qe0 := HE4.c0
  obtain ⟨hgb, hgo, eyG, _, hG1⟩ := HG4.head 1 (by omega)
  rw [show ((xH).getD 1 M.hd0).2 = 3 from by decide +kernel] at hG1
  subst eyG
  have qg0 := HG4.c0
  have qg1 := HG4.c1
  clear hY4 bY4 bY3 HE4 HG4 KS3 cy
  go_wp2
  go_ret
  exact ⟨rfl, cz⟩
end Go.Proofs.YtcgpgflnihjpiafGreat

/- Appending a slice that may be nil to a row of the call's own, at a step of a region: rows, ints, heads. -/
namespace Go.Proofs.YtcgpgflnihjpiafGreat
open Go.RowKit

theorem step_append_any {w : World} {ops : Array Oper} {o : Oper} {a : Act} {K : Act → World → Prop} {Q : Exit → Act → World → Prop} {E : Prop} (hgd : o.guard = none) (s x : Operand) (t : TypeId)
    (ho : o.op = .call { callee := .builtin .append, args := #[s, x], argTypes := #[t, t] })
    (base : Nat) (e : TypeId) (i : TypeInfo) (z : Value) (size bytes : Nat) (ht : Tryz.prog.underlying t = some (.slice e)) (hi : Tryz.prog.info? e = some i) (hz : i.zero = some z)
    (hsize : i.size = size) (hby : i.bytes = bytes) (hzs : z.cells.size = size) (hsz : 0 < size)
    (v : Value) (n : Nat) (xs : List Value) (hs : a.eval s = v) (hown : w.ownsRow base e size v n xs)
    (ao : Option Addr) (m c : Nat) (news : List Value) (hx : a.eval x = .slice ao m c) (hl : news.length = m * size) (hnews : ∀ ad, ao = some ad → ∀ j u, news[j]? = some u → w.cell? (ad.add j) = some u) (hnil : ao = none → m = 0 ∧ c = 0) (h1 : ∀ u ∈ news, u.oneCell' = true)
    (h63 : n + m ≤ maxLen) (hbytes : (n + m) * bytes ≤ 140737488355328) (hbase : base ≤ w.heap.size)
    (h : ∀ v' w', w'.ownsRow base e size v' (n + m) (xs ++ news) → w.grownBy w' v.ownBlock → K (a.put o.dst v') w') :
    if Region.wanted o (yielded ops a.tmps) = true then Oper.wp Tryz.prog o a w K Q else E := by
  have hw : Region.wanted o (yielded ops a.tmps) = true := by simp [Region.wanted, hgd]
  rw [if_pos hw]
  cases ao with
  | none =>
    obtain ⟨rfl, rfl⟩ := hnil rfl
    have e2 : news = [] := List.eq_nil_of_length_eq_zero (by omega)
    subst e2
    have hrun := run_append_owned_none (P := Tryz.prog) (w := w) base t o.type e i size ht hi v n xs hown
    have hk := h v w (by simpa using hown) ⟨rfl, rfl, rfl, Nat.le_refl _, fun _ _ _ => rfl⟩
    unfold Oper.wp
    simp [execOp, ho, resolve, invoke, builtin, hs, hx, hrun, Result.andThen]
    exact hk
  | some ad =>
    exact wp_append_own w s x t ho base e i z size bytes ht hi hz hsize hby hzs hsz v n xs hs hown ad m c news hx hl (hnews ad rfl) h1 h63 hbytes hbase (fun v' w' k1 k2 _ => h v' w' k1 k2)

theorem news_rd {w : World} {ao : Option Addr} {n : Nat} {l : List (Int × Int)} (h : Rd w ao n l) : ∀ ad, ao = some ad → ∀ j u, (enc l)[j]? = some u → w.cell? (ad.add j) = some u := by
  intro ad e
  rcases h.cases with ⟨rfl, rfl⟩ | ⟨b, off, hab, hn, hl, hB, hc⟩
  · intro j u hj; simp [YtcgpgflnihjpiafGreat.enc] at hj
  · obtain rfl : ad = ⟨b, off, none⟩ := by rw [e] at hab; simpa using hab
    exact Rd.enc hl hc
theorem news_ri {w : World} {ao : Option Addr} {n : Nat} {l : List Int} (h : Ri w ao n l) : ∀ ad, ao = some ad → ∀ j u, (l.map (Value.int .i64))[j]? = some u → w.cell? (ad.add j) = some u := by
  intro ad e j u hj
  rcases h.cases with ⟨rfl, rfl⟩ | ⟨b, off, hab, hn, hl, hB, hc⟩
  · simp at hj
  · obtain rfl : ad = ⟨b, off, none⟩ := by rw [e] at hab; simpa using hab
    have hjl : j < l.length := by have := (List.getElem?_eq_some_iff.1 hj).1; simpa using this
    rw [Addr.add_lit, hc j (by omega)]
    simp [List.getElem?_map, List.getElem?_eq_getElem hjl] at hj
    rw [← hj]
    simp [List.getD, hjl]
theorem news_hs {w : World} {ao : Option Addr} {n : Nat} {H : List M.Hd} (h : Hs w ao n H) : ∀ ad, ao = some ad → ∀ j u, (encH H)[j]? = some u → w.cell? (ad.add j) = some u := by
  intro ad e j u hj
  obtain ⟨hl, h0 | ⟨b, off, hab, hB, hc⟩⟩ := h
  · obtain rfl : H = [] := List.eq_nil_of_length_eq_zero (by omega)
    simp [encH] at hj
  · obtain rfl : ad = ⟨b, off, none⟩ := by rw [e] at hab; simpa using hab
    have hjl : j < (encH H).length := (List.getElem?_eq_some_iff.1 hj).1
    rw [encH_length] at hjl
    have q := hc (j / 2) (by omega)
    rw [Addr.add_lit]
    have h2 : j % 2 = 0 ∨ j % 2 = 1 := by omega
    rcases h2 with h2 | h2
    · have ej : j = j / 2 * 2 := by omega
      rw [ej] at hj ⊢
      rw [encH_name H (j / 2) (by omega)] at hj
      rw [← hj]; exact q.1
    · have ej : j = j / 2 * 2 + 1 := by omega
      rw [ej] at hj ⊢
      rw [encH_at H (j / 2) (by omega)] at hj
      rw [← hj, ← Nat.add_assoc]; exact q.2.1
theorem hs_small {w : World} {ao : Option Addr} {n : Nat} {H : List M.Hd} (h : Hs w ao n H) : ∀ x ∈ H, x.1.size ≤ 9223372036854775807 := by
  intro x hx
  obtain ⟨i, hi, e⟩ := List.getElem_of_mem hx
  obtain ⟨hl, h0 | ⟨b, off, hab, hB, hc⟩⟩ := h
  · omega
  · have := (hc i (by omega)).2.2
    rwa [show H.getD i M.hd0 = x by simp [List.getD, hi, e]] at this

theorem step_rows {w : World} {ops : Array Oper} {o : Oper} {a : Act} {K : Act → World → Prop} {Q : Exit → Act → World → Prop} {E : Prop} (hgd : o.guard = none) (s x : Operand)
    (ho : o.op = .call { callee := .builtin .append, args := #[s, x], argTypes := #[49, 49] })
    (base : Nat) (v : Value) (l : List (Int × Int)) (hs : a.eval s = v) (hown : Own w base v l)
    (ao : Option Addr) (m c : Nat) (l2 : List (Int × Int)) (hx : a.eval x = .slice ao m c) (hr : Rd w ao m l2) (hnil : ao = none → m = 0 ∧ c = 0)
    (hbig : l.length + m ≤ 1000000) (hbase : base ≤ w.heap.size)
    (h : ∀ v' w', Own w' base v' (l ++ l2) → w.grownBy w' v.ownBlock → K (a.put o.dst v') w') :
    if Region.wanted o (yielded ops a.tmps) = true then Oper.wp Tryz.prog o a w K Q else E := by
  obtain ⟨i0, hi, hz0, hz1, hz2⟩ := info_parts infoRow
  refine step_append_any hgd s x 49 ho base 98 i0 (.agg #[.int .i64 0, .int .i64 0]) 2 16 Tryz.underlying49 hi hz0 hz1 hz2 rfl (by decide) v l.length (enc l) hs hown ao m c (enc l2) hx (by rw [enc_length, hr.1]) (news_rd hr) hnil (enc_one l2)
    (by simp only [maxLen]; omega) (by omega) hbase ?_
  intro v' w' h1 h2
  refine h v' w' ?_ h2
  unfold Own
  rw [enc_append, List.length_append, hr.1]
  exact h1
theorem step_ints {w : World} {ops : Array Oper} {o : Oper} {a : Act} {K : Act → World → Prop} {Q : Exit → Act → World → Prop} {E : Prop} (hgd : o.guard = none) (s x : Operand)
    (ho : o.op = .call { callee := .builtin .append, args := #[s, x], argTypes := #[38, 38] })
    (base : Nat) (v : Value) (l : List Int) (hs : a.eval s = v) (hown : OwnI w base v l)
    (ao : Option Addr) (m c : Nat) (l2 : List Int) (hx : a.eval x = .slice ao m c) (hr : Ri w ao m l2) (hnil : ao = none → m = 0 ∧ c = 0)
    (hbig : l.length + m ≤ 1000000) (hbase : base ≤ w.heap.size)
    (h : ∀ v' w', OwnI w' base v' (l ++ l2) → w.grownBy w' v.ownBlock → K (a.put o.dst v') w') :
    if Region.wanted o (yielded ops a.tmps) = true then Oper.wp Tryz.prog o a w K Q else E := by
  obtain ⟨i0, hi, hz0, hz1, hz2⟩ := info_parts infoInt
  refine step_append_any hgd s x 38 ho base 3 i0 (.int .i64 0) 1 8 Tryz.underlying38 hi hz0 hz1 hz2 rfl (by decide) v l.length (l.map (Value.int .i64)) hs hown ao m c (l2.map (Value.int .i64)) hx (by rw [List.length_map, hr.1]; omega) (news_ri hr) hnil (fun u hu => by obtain ⟨q, _, rfl⟩ := List.mem_map.1 hu; rfl)
    (by simp only [maxLen]; omega) (by omega) hbase ?_
  intro v' w' h1 h2
  refine h v' w' ?_ h2
  unfold OwnI
  rw [List.map_append, List.length_append, hr.1]
  exact h1
theorem step_heads {w : World} {ops : Array Oper} {o : Oper} {a : Act} {K : Act → World → Prop} {Q : Exit → Act → World → Prop} {E : Prop} (hgd : o.guard = none) (s x : Operand)
    (ho : o.op = .call { callee := .builtin .append, args := #[s, x], argTypes := #[23, 23] })
    (base : Nat) (v : Value) (l : List M.Hd) (hs : a.eval s = v) (hown : OwnH w base v l)
    (ao : Option Addr) (m c : Nat) (l2 : List M.Hd) (hx : a.eval x = .slice ao m c) (hr : Hs w ao m l2) (hnil : ao = none → m = 0 ∧ c = 0)
    (hbig : l.length + m ≤ 1000000) (hbase : base ≤ w.heap.size)
    (h : ∀ v' w', OwnH w' base v' (l ++ l2) → w.grownBy w' v.ownBlock → K (a.put o.dst v') w') :
    if Region.wanted o (yielded ops a.tmps) = true then Oper.wp Tryz.prog o a w K Q else E := by
  obtain ⟨i0, hi, hz0, hz1, hz2⟩ := info_parts infoHead
  refine step_append_any hgd s x 23 ho base 71 i0 (.agg #[.string ⟨#[]⟩, .int .i64 0]) 2 24 Tryz.underlying23 hi hz0 hz1 hz2 rfl (by decide) v l.length (encH l) hs hown.1 ao m c (encH l2) hx (by rw [encH_length, hr.1]) (news_hs hr) hnil (encH_one l2)
    (by simp only [maxLen]; omega) (by omega) hbase ?_
  intro v' w' h1 h2
  refine h v' w' ⟨?_, fun x hx => ?_⟩ h2
  · rw [encH_append, List.length_append, hr.1]
    exact h1
  · rcases List.mem_append.1 hx with hx | hx
    · exact hown.2 x hx
    · exact hs_small hr x hx
theorem wpl_heads {w : World} {ops : Array Oper} {rest : List Oper} {o : Oper} {a : Act} {Q : Exit → Act → World → Prop} (hgd : o.guard = none) (s x : Operand)
    (ho : o.op = .call { callee := .builtin .append, args := #[s, x], argTypes := #[23, 23] })
    (base : Nat) (v : Value) (l : List M.Hd) (hs : a.eval s = v) (hown : OwnH w base v l)
    (ao : Option Addr) (m c : Nat) (l2 : List M.Hd) (hx : a.eval x = .slice ao m c) (hr : Hs w ao m l2) (hnil : ao = none → m = 0 ∧ c = 0)
    (hbig : l.length + m ≤ 1000000) (hbase : base ≤ w.heap.size)
    (h : ∀ v' w', OwnH w' base v' (l ++ l2) → w.grownBy w' v.ownBlock → wpList Tryz.prog ops Q rest (a.put o.dst v') w') : wpList Tryz.prog ops Q (o :: rest) a w := by
  refine wpList_plain hgd fun K hK => ?_
  have := step_heads (ops := ops) (K := K) (Q := Q) (E := True) hgd s x ho base v l hs hown ao m c l2 hx hr hnil hbig hbase (fun v' w' h1 h2 => hK _ _ (h v' w' h1 h2))
  rwa [if_pos (by simp [Region.wanted, hgd])] at this
theorem own_empty (w : World) (base : Nat) (e : TypeId) (size : Nat) (hb : base ≤ w.heap.size) : (w.alloc (.cells #[] e)).ownsRow base e size (.slice (some ⟨w.heap.size, 0, none⟩) 0 0) 0 [] :=
  ⟨by simp, Or.inr ⟨w.heap.size, 0, #[], rfl, hb, heap_alloc_new _ _, Nat.le_refl _, by simp [maxLen], by simp, by simp⟩⟩

section
variable {P : Program} {ops : Array Oper} {Q : Exit → Act → World → Prop} {md : Region.Mode} {S : World → Prop} {L : Nat}
/-- Two may come up. -/
theorem till_two (i j : Nat) {o o' : Oper} {fuel : Nat} {listed : Array Bool} {a : Act} {w : World} (ho : ops[i]? = some o) (ho' : ops[j]? = some o') (hiL : i ≠ L) (hjL : j ≠ L) (hr : Region.ready md ops listed = [i, j])
    (h : ∀ K' : Act → World → Prop, Shut (∀ a w, S w → (S w → Till P md ops Q S L fuel (listed.setIfInBounds i true) a w) → K' a w) → if Region.wanted o (yielded ops a.tmps) = true then Oper.wp P o a w K' Q else K' (a.put o.dst undef) w)
    (h' : ∀ K' : Act → World → Prop, Shut (∀ a w, S w → (S w → Till P md ops Q S L fuel (listed.setIfInBounds j true) a w) → K' a w) → if Region.wanted o' (yielded ops a.tmps) = true then Oper.wp P o' a w K' Q else K' (a.put o'.dst undef) w) :
    Till P md ops Q S L (fuel + 1) listed a w := by
  refine ⟨fun e => (by rw [hr] at e; cases e), fun k hk => ?_⟩
  rw [hr] at hk
  have hk2 : k = i ∨ k = j := by simpa using hk
  rcases hk2 with rfl | rfl
  · exact wpOp_step ho (fun K' hK => h K' (fun a w hS hW => hK a w ⟨fun _ _ => hS, hW hS⟩))
  · exact wpOp_step ho' (fun K' hK => h' K' (fun a w hS hW => hK a w ⟨fun _ _ => hS, hW hS⟩))
end
end Go.Proofs.YtcgpgflnihjpiafGreat

/- The reference's OwnRepo. -/
namespace Go.Proofs.YtcgpgflnihjpiafGreat
open Go.RowKit Go.Shelf

/-- What OwnRepo's loop keeps: the repo that grows, in the box D. -/
structure RAt (Wp : World) (D : Nat) (x y : Value) (C : List M.Com) (H : List M.Hd) (w : World) : Prop where
  bel : Below Wp.heap.size Wp w
  blk : w.heap[D]? = some (.cells #[x, y] 25 (0, 0))
  k : OwnK w Wp.heap.size x C
  h : OwnH w Wp.heap.size y H
theorem RAt.later {Wp : World} {D : Nat} {x y : Value} {C : List M.Com} {H : List M.Hd} {w w' : World} (h : RAt Wp D x y C H w) (hb : Below w.heap.size w w') : RAt Wp D x y C H w' :=
  ⟨h.bel.trans (hb.mono h.bel.size), (hb.block D (Array.getElem?_eq_some_iff.1 h.blk).1).trans h.blk, h.k.later hb, h.h.later hb⟩
theorem RAt.put {Wp : World} {D : Nat} {x x' y : Value} {C : List M.Com} {c : M.Com} {q : Value × Value} {H : List M.Hd} {w w' : World} {vals : List (Value × Value)} (hD : Wp.heap.size ≤ D) (h : RAt Wp D x y C H w) (tmp : Obj) (hl : vals.length = C.length) (h1 : w.ownsRow Wp.heap.size 51 2 x C.length (encP vals)) (h2 : ∀ i, i < C.length → OwnCo w Wp.heap.size (vals.getD i vp0) (C.getD i ([], [])))
    (hq : OwnCo w Wp.heap.size q c) (h3 : w'.ownsRow Wp.heap.size 51 2 x' (C.length + 1) (encP vals ++ [q.1, q.2])) (hg : (w.alloc tmp).grownBy w' x.ownBlock) :
    RAt Wp D x' y (C ++ [c]) H (w'.setCell ⟨D, 0, none⟩ x') ∧ w'.heap[D]? = some (.cells #[x, y] 25 (0, 0)) := by
  have hlt := (Array.getElem?_eq_some_iff.1 h.blk).1
  have typ : ∀ r, x.ownBlock = some r → ∃ cur, (w.alloc tmp).heap[r]? = some (.cells cur 51 (0, 0)) := by
    intro r e
    rcases (h1.alloc tmp).2 with ⟨rfl, _⟩ | ⟨g, cap, cur', rfl, _, hgb, _⟩
    · simp [Value.ownBlock] at e
    · obtain rfl : g = r := by simpa [Value.ownBlock] using e
      exact ⟨_, hgb⟩
  have other : ∀ e, e ≠ 51 → ∀ r, x.ownBlock = some r → ∀ cur, (w.alloc tmp).heap[r]? ≠ some (.cells cur e (0, 0)) := by
    intro e he r hr cur hc
    obtain ⟨cur', hcur⟩ := typ r hr
    rw [hcur] at hc
    simp at hc
    exact he hc.2.symm
  have hDa : (w.alloc tmp).heap[D]? = some (.cells #[x, y] 25 (0, 0)) := by rw [Below.heap_alloc _ _ _ hlt]; exact h.blk
  have hne : x.ownBlock ≠ some D := fun e => other _ (by decide) D e _ hDa
  have hbk : w'.heap[D]? = some (.cells #[x, y] 25 (0, 0)) := by
    rw [hg.block D (by simp; omega) (fun e => hne e.symm)]; exact hDa
  have b1 : Below Wp.heap.size Wp w' := (h.bel.alloc h.bel.size tmp).grown hg (by have := h.bel.size; simp; omega) (fun k e => by
    have := (World.ownsRow.lt h1 k e).1; omega)
  have hba : Below w.heap.size w (w.alloc tmp) := (Below.refl _ _).alloc (Nat.le_refl _) _
  have K' : OwnK w' Wp.heap.size x' (C ++ [c]) := OwnK.append hl (h1.alloc tmp) (fun i hi => (h2 i hi).later hba) (hq.later hba) h3 hg
  have g2 := grownBy_set w' ⟨D, 0, none⟩ x'
  refine ⟨⟨b1.setCell (p := ⟨D, 0, none⟩) hD _, ?_, K'.elsewhere g2 hbk (by decide) (by decide) (by decide), OwnH.elsewhere ⟨ownsRow_elsewhere (h.h.later hba).1 hg (other _ (by decide)), h.h.2⟩ g2 hbk (by decide)⟩, hbk⟩
  rw [heap_setCell_same _ _ _ _ _ _ hbk]; rfl
theorem rown_end {Wp wr w5 w6 : World} {D k g6 cap6 : Nat} {x y v4 v5 : Value} {Ck : List M.Com} {cc : M.Com} {H : List M.Hd} {vals : List (Value × Value)} (hCl : Ck.length = k) (hVl : vals.length = Ck.length) (hrow : wr.ownsRow Wp.heap.size 51 2 x k (encP vals)) (hel : ∀ i, i < Ck.length → OwnCo wr Wp.heap.size (vals.getD i vp0) (Ck.getD i ([], []))) (hD : Wp.heap.size ≤ D)
    (hw5 : Below wr.heap.size wr w5) (hO : RAt Wp D x y Ck H w5) (hq : OwnCo w5 Wp.heap.size (v4, v5) cc) (h6 : w6.ownsRow Wp.heap.size 51 2 (.slice (some ⟨g6, 0, none⟩) (k + 1) cap6) (k + 1) (encP vals ++ [v4, v5])) (h7 : (w5.alloc (.cells #[v4, v5] 51)).grownBy w6 x.ownBlock) :
    RAt Wp D (.slice (some ⟨g6, 0, none⟩) (k + 1) cap6) y (Ck ++ [cc]) H (w6.setCell ⟨D, 0, none⟩ (.slice (some ⟨g6, 0, none⟩) (k + 1) cap6)) ∧ w6.heap[D]? = some (.cells #[x, y] 25 (0, 0)) := by
  subst hCl
  exact hO.put hD (.cells #[v4, v5] 51) hVl (ownsRow_later hrow hw5) (fun i hi => (hel i hi).later hw5) hq h6 h7
theorem own_other {w w' : World} {b1 b2 : Nat} {t1 t2 : TypeId} {s1 s2 n1 n2 : Nat} {v1 v2 : Value} {x1 x2 : List Value} (h1 : w.ownsRow b1 t1 s1 v1 n1 x1) (h2 : w.ownsRow b2 t2 s2 v2 n2 x2) (ht : t1 ≠ t2) (hg : w.grownBy w' v2.ownBlock) : w'.ownsRow b1 t1 s1 v1 n1 x1 :=
  keep_row h1 fun k hk e => hg.block k hk fun e2 => apart_rows h1 h2 ht k e e2.symm
theorem below_grown {w w' : World} {g : Option Nat} {B : Nat} (h : w.grownBy w' g) (hg : ∀ k, g = some k → B ≤ k) (hB : B ≤ w.heap.size) : Below B w w' :=
  (Below.refl B w).grown h hB hg

set_option maxRecDepth 100000 in
set_option maxHeartbeats 8000000 in
theorem ownRepo_any (a : Option Addr) (n cap : Nat) (C : List M.Com) (a2 : Option Addr) (n2 cap2 : Nat) (H : List M.Hd) (w : World) (hV : RepoV w a n cap C a2 n2 cap2 H) (hz : M.rchk C H = 0) :
    Calls Tryz.prog 103 #[.agg #[.slice a n cap, .slice a2 n2 cap2]] w fun e w' => ∃ v, e = .returned v ∧ RepoOwn w' w.heap.size v C H ∧ Below w.heap.size w w' := by
  obtain ⟨p, hp⟩ : ∃ p, p = w.heap.size := ⟨_, rfl⟩
  have I0 := InBox.new w a n cap C a2 n2 cap2 H hV.cm hV.hs
  obtain ⟨Wp, hWp⟩ : ∃ Wp, Wp = (w.alloc (.cells #[.slice a n cap, .slice a2 n2 cap2] 25)).alloc (.cells #[.slice none 0 0, .slice none 0 0] 25) := ⟨_, rfl⟩
  have hb0 : Below (w.alloc (.cells #[.slice a n cap, .slice a2 n2 cap2] 25)).heap.size (w.alloc (.cells #[.slice a n cap, .slice a2 n2 cap2] 25)) Wp := by rw [hWp]; exact (Below.refl _ _).alloc (Nat.le_refl _) _
  have I1 := I0.below hb0
  rw [← hp] at I1
  have hbp : Below w.heap.size w Wp := by rw [hWp]; exact ((Below.refl _ _).alloc (Nat.le_refl _) _).alloc (by simp) _
  have hsp : Wp.heap.size = p + 2 := by rw [hWp, hp]; simp
  have q2 : Wp.heap[p + 1]? = some (.cells #[.slice none 0 0, .slice none 0 0] 25 (0, 0)) := by
    rw [hWp, show p + 1 = (w.alloc (.cells #[.slice a n cap, .slice a2 n2 cap2] 25)).heap.size by rw [hp]; simp]
    exact heap_alloc_new _ _
  obtain ⟨Wh, hWh⟩ : ∃ Wh, Wh = Wp.alloc (.cells #[] 71) := ⟨_, rfl⟩
  have hbh : Below Wp.heap.size Wp Wh := by rw [hWh]; exact (Below.refl _ _).alloc (Nat.le_refl _) _
  have HO0 : Hid (OwnH Wh Wp.heap.size (.slice (some ⟨w.heap.size + 1 + 1, 0, none⟩) 0 0) []) := ⟨by rw [hWh, show w.heap.size + 1 + 1 = Wp.heap.size by rw [hsp, hp]]; exact own_empty Wp _ _ _ (Nat.le_refl _), fun x hx => by simp at hx⟩
  have HVp : Hid (RepoV Wp a n cap C a2 n2 cap2 H) := hV.later hbp
  have J := I1.below hbh
  have c0 := J.c0
  have c1 := J.c1
  have HI : Hid (InBox Wp p a n cap C a2 n2 cap2 H) := I1
  have HZ : Hid (M.rchk C H = 0) := hz
  have hn2 : n2 ≤ 4 := by have := (M.rchk_zero hz).2.1; have := hV.hs.1; omega
  have hn14 : n ≤ 14 := by have := (M.dchk_zero (M.rchk_zero hz).1).1; have := hV.cm.1; omega
  have HHs : Hid (Hs Wh a2 n2 H) := J.hs
  have HNil : Hid (a2 = none → n2 = 0 ∧ cap2 = 0) := hV.hn
  have HWh : Hid (Wh = ((w.alloc (.cells #[.slice a n cap, .slice a2 n2 cap2] 25)).alloc (.cells #[.slice none 0 0, .slice none 0 0] 25)).alloc (.cells #[] 71)) := by rw [← hWp]; exact hWh
  have HP : Aside (p = w.heap.size) := hp
  have HSp : Aside (Wp.heap.size = p + 2) := hsp
  have HQ2 : Hid (Wp.heap[p + 1]? = some (.cells #[.slice none 0 0, .slice none 0 0] 25 (0, 0))) := q2
  have hWs : Wp.heap.size ≤ Wh.heap.size := hbh.size
  have HN : Hid (w.heap.size + 1 + 1 = Wp.heap.size) := by unfold Hid; rw [hsp, hp]
  clear hWh hWp hp I0 I1 J hb0 hV hz q2 hsp
  go_enter Tryz.func103, Tryz.ntmps103
  go_wp2_with (at_builtin; refine wpl_heads rfl _ _ rfl Wp.heap.size (.slice (some ⟨w.heap.size + 1 + 1, 0, none⟩) 0 0) [] rfl (by rw [← HWh.out]; exact HO0.out) a2 n2 cap2 H rfl (by rw [← HWh.out]; exact HHs.out) HNil.out (by simp; omega) (by rw [← HWh.out]; exact hWs) ?_)
  rw [← HWh.out]
  intro v1 w1 ho hg
  have b1 : Below Wp.heap.size Wp w1 := hbh.trans (below_grown hg (fun k e => by have := World.ownsRow.lt HO0.out.1 k e; exact this.1) hWs)
  obtain ⟨D, hD⟩ : ∃ D, D = w1.heap.size := ⟨_, rfl⟩
  obtain ⟨W2, hW2⟩ : ∃ W2, W2 = w1.alloc (.cells #[.slice none 0 0, v1] 25) := ⟨_, rfl⟩
  have bW2 : Below w1.heap.size w1 W2 := by rw [hW2]; exact (Below.refl _ _).alloc (Nat.le_refl _) _
  have R0 : RAt Wp D (.slice none 0 0) v1 [] H W2 := ⟨b1.trans (bW2.mono b1.size), by rw [hW2, hD]; exact heap_alloc_new _ _, OwnK.nil _ _, ho.later bW2⟩
  have hDW : Wp.heap.size ≤ D := by rw [hD]; exact b1.size
  have hpD : p < D := by have := HSp.out; omega
  obtain ⟨ya, yc, rfl, _⟩ := ho.hs
  obtain ⟨yn, hyn⟩ : ∃ yn, yn = H.length := ⟨_, rfl⟩
  rw [← hyn] at R0 hW2 ⊢
  have HR0 : Aside (RAt Wp D (.slice none 0 0) (.slice ya yn yc) [] H W2) := R0
  have HW2 : Hid (W2 = w1.alloc (.cells #[.slice none 0 0, .slice ya yn yc] 25)) := hW2
  have HD : Aside (D = w1.heap.size) := hD
  clear hW2 hD R0 ho hg b1 bW2 c0 c1 HO0 HHs hyn
  go_wp2_with fail
  rw [← HW2.out, ← HD.out, ← HP.out]
  go_loopg [4] n (fun g i wr => ∃ (k : Nat) (x : Value), k + g = n ∧ i = .int .i64 k ∧ Aside (RAt Wp D x (.slice ya yn yc) (C.take k) H wr))
  case atStart => exact ⟨0, _, by omega, rfl, HR0⟩
  case round =>
    obtain ⟨k, x, hk, rfl, HOk⟩ := hrel
    have hbel := HOk.out.bel
    have J := HI.out.below hbel
    have JV := HVp.out.later hbel
    have d0 := J.c0
    by_cases hlt : k < n
    · obtain ⟨b, off, rfl, a1, n1, c1, a3, n3, c3, t0, t1, s0, s1, m0, m1⟩ : ∃ b off, a = some ⟨b, off, none⟩ ∧ ∃ a1 n1 c1 a2 n2 c2, wr.cell? ⟨b, off + k * 2, none⟩ = some (.slice a1 n1 c1) ∧ wr.cell? ⟨b, off + k * 2 + 1, none⟩ = some (.slice a2 n2 c2) ∧ Rd wr a1 n1 (C.getD k ([], [])).1 ∧ Ri wr a2 n2 (C.getD k ([], [])).2 ∧ n1 ≤ 9223372036854775807 ∧ n2 ≤ 9223372036854775807 := by
        rcases J.cm.cases with ⟨h0, _⟩ | ⟨b, off, e, _, _, _, hc⟩
        · omega
        · exact ⟨b, off, e, hc k hlt⟩
      obtain ⟨cc, hcc⟩ : ∃ cc, cc = C.getD k ([], []) := ⟨_, rfl⟩
      rw [← hcc] at s0 s1
      have hRk := (M.dchk_zero (M.rchk_zero HZ.out).1).2 k (by rw [J.cm.1]; exact hlt)
      rw [← hcc] at hRk
      have hn1 : n1 ≤ 40 := by rw [← s0.1]; exact ((M.chk_zero cc.1).1 hRk.1).1
      have hn3 : n3 ≤ 2 := by rw [← s1.1]; exact hRk.2.1
      have HN1 : Hid (a1 = none → n1 = 0 ∧ c1 = 0) := JV.cn b off rfl k hlt a1 n1 c1 (Or.inl t0)
      have HN3 : Hid (a3 = none → n3 = 0 ∧ c3 = 0) := JV.cn b off rfl k hlt a3 n3 c3 (Or.inr t1)
      have ET : Aside (C.take (k + 1) = C.take k ++ [cc]) := by unfold Aside; rw [List.take_succ_eq_append_getElem (by rw [J.cm.1]; exact hlt), hcc]; simp [List.getD, J.cm.1, hlt]
      obtain ⟨Ck, hCk⟩ : ∃ Ck, Ck = C.take k := ⟨_, rfl⟩
      have hCl : Ck.length = k := by rw [hCk, List.length_take, J.cm.1]; omega
      rw [← hCk] at ET HOk
      have HCl : Aside (Ck.length = k) := hCl
      obtain ⟨vals, hvl, hrow, hel⟩ := HOk.out.k
      have HVl : Aside (vals.length = Ck.length) := hvl
      have HRow : Aside (wr.ownsRow Wp.heap.size 51 2 x k (encP vals)) := by unfold Aside; rw [← hCl]; exact hrow
      have HEl : Aside (∀ i, i < Ck.length → OwnCo wr Wp.heap.size (vals.getD i vp0) (Ck.getD i ([], []))) := hel
      obtain ⟨xa, xn, xc, rfl⟩ : ∃ xa xn xc, x = .slice xa xn xc := by obtain ⟨xa, xc, e, _⟩ := HOk.out.k.cm; exact ⟨xa, _, xc, e⟩
      have hDr : D < wr.heap.size := (Array.getElem?_eq_some_iff.1 HOk.out.blk).1
      have hBr : b < wr.heap.size := World.block_lt_of_cell? wr ⟨b, off + k * 2, none⟩ t0
      have hBp : b < Wp.heap.size := by
        rcases HVp.out.cm.cases with ⟨h0, _⟩ | ⟨b', off', e, _, _, hB, _⟩
        · omega
        · cases e; exact hB
      have HSV : Hid (∀ V, Below wr.heap.size wr V → V.cell? ⟨D, 0, none⟩ = some (.slice xa xn xc) ∧ V.cell? ⟨p, 0, none⟩ = some (.slice (some ⟨b, off, none⟩) n cap) ∧ V.cell? ⟨b, off + k * 2, none⟩ = some (.slice a1 n1 c1) ∧ V.cell? ⟨b, off + k * 2 + 1, none⟩ = some (.slice a3 n3 c3)) := fun V hV => by
        refine ⟨?_, ?_, ?_, ?_⟩
        · rw [cell_of_row _ _ _ _ _ _ (HOk.out.later hV).blk]; rfl
        · exact (hV.cell (p := ⟨p, 0, none⟩) (by show p < _; omega)).trans d0
        · exact (hV.cell (p := ⟨b, off + k * 2, none⟩) hBr).trans t0
        · exact (hV.cell (p := ⟨b, off + k * 2 + 1, none⟩) hBr).trans t1
      have HS0 : Hid (Rd wr a1 n1 cc.1) := s0
      have HS1 : Hid (Ri wr a3 n3 cc.2) := s1
      have HLe : Hid (cc.1.length ≤ 1000000 ∧ cc.2.length ≤ 1000000) := ⟨by rw [s0.1]; omega, by rw [s1.1]; omega⟩
      have hWr : Wp.heap.size ≤ wr.heap.size := hbel.size
      have HBd : Hid (Below wr.heap.size wr wr.drew) := (Below.refl _ _).drew
      have hki : (k : Int) < (n : Int) := by omega
      obtain ⟨i1, hi1, hy0, hy1, hy2⟩ := info_parts infoCommit
      clear hcc hRk hCk hCl hvl hrow hel s0 s1 J JV
      go_wp2_with fail
      refine wp_region_till 22 (fun V => V.cell? ⟨D, 0, none⟩ = some (.slice xa xn xc) ∧ V.cell? ⟨p, 0, none⟩ = some (.slice (some ⟨b, off, none⟩) n cap) ∧ V.cell? ⟨b, off + k * 2, none⟩ = some (.slice a1 n1 c1) ∧ V.cell? ⟨b, off + k * 2 + 1, none⟩ = some (.slice a3 n3 c3)) (by kernel_rfl) (HSV.out _ HBd.out) (fun hHeld => ?_)
      refine till_go 0 (v := .pointer (some ⟨D, 0, none⟩)) rfl (by decide) (by kernel_rfl) (by kernel_rfl) (by kernel_rfl) (fun _ _ _ h => h) (Or.inl ⟨by rfl, fun V _ => (by go_simp)⟩) hHeld ?_
      try simp only [Act.put]
      refine till_take 1 (v := .slice xa xn xc) rfl (by decide) (by kernel_rfl) (by kernel_rfl) (by kernel_rfl) (by kernel_rfl) (by kernel_rfl) (fun _ _ _ h => h) (Or.inl ⟨by rfl, fun V hV => (by obtain ⟨v0, v1, v2, v3⟩ := hV; go_simp)⟩) hHeld ?_
      try simp only [Act.put]
      refine till_go 3 (v := .pointer (some ⟨p, 0, none⟩)) rfl (by decide) (by kernel_rfl) (by kernel_rfl) (by kernel_rfl) (fun _ _ _ h => h) (Or.inl ⟨by rfl, fun V _ => (by go_simp)⟩) hHeld ?_
      try simp only [Act.put]
      refine till_take 4 (v := .slice (some ⟨b, off, none⟩) n cap) rfl (by decide) (by kernel_rfl) (by kernel_rfl) (by kernel_rfl) (by kernel_rfl) (by kernel_rfl) (fun _ _ _ h => h) (Or.inl ⟨by rfl, fun V hV => (by obtain ⟨v0, v1, v2, v3⟩ := hV; go_simp)⟩) hHeld ?_
      try simp only [Act.put]
      refine till_go 5 (v := .int .i64 (k : Int)) rfl (by decide) (by kernel_rfl) (by kernel_rfl) (by kernel_rfl) (fun _ _ _ h => h) (Or.inl ⟨by rfl, fun V _ => (by go_simp)⟩) hHeld ?_
      try simp only [Act.put]
      refine till_go 6 (v := .pointer (some ⟨b, off + k * 2, none⟩)) rfl (by decide) (by kernel_rfl) (by kernel_rfl) (by kernel_rfl) (fun _ _ _ h => h) (Or.inl ⟨by rfl, fun V _ => (by go_simp)⟩) hHeld ?_
      try simp only [Act.put]
      refine till_go 7 (v := .pointer (some ⟨b, off + k * 2, none⟩)) rfl (by decide) (by kernel_rfl) (by kernel_rfl) (by kernel_rfl) (fun _ _ _ h => h) (Or.inl ⟨by rfl, fun V _ => (by go_simp)⟩) hHeld ?_
      try simp only [Act.put]
      refine till_take 8 (v := .slice a1 n1 c1) rfl (by decide) (by kernel_rfl) (by kernel_rfl) (by kernel_rfl) (by kernel_rfl) (by kernel_rfl) (fun _ _ _ h => h) (Or.inl ⟨by rfl, fun V hV => (by obtain ⟨v0, v1, v2, v3⟩ := hV; go_simp)⟩) hHeld ?_
      try simp only [Act.put]
      refine till_go 11 (v := .pointer (some ⟨p, 0, none⟩)) rfl (by decide) (by kernel_rfl) (by kernel_rfl) (by kernel_rfl) (fun _ _ _ h => h) (Or.inl ⟨by rfl, fun V _ => (by go_simp)⟩) hHeld ?_
      try simp only [Act.put]
      refine till_take 12 (v := .slice (some ⟨b, off, none⟩) n cap) rfl (by decide) (by kernel_rfl) (by kernel_rfl) (by kernel_rfl) (by kernel_rfl) (by kernel_rfl) (fun _ _ _ h => h) (Or.inl ⟨by rfl, fun V hV => (by obtain ⟨v0, v1, v2, v3⟩ := hV; go_simp)⟩) hHeld ?_
      try simp only [Act.put]
      refine till_go 13 (v := .int .i64 (k : Int)) rfl (by decide) (by kernel_rfl) (by kernel_rfl) (by kernel_rfl) (fun _ _ _ h => h) (Or.inl ⟨by rfl, fun V _ => (by go_simp)⟩) hHeld ?_
      try simp only [Act.put]
      refine till_go 14 (v := .pointer (some ⟨b, off + k * 2, none⟩)) rfl (by decide) (by kernel_rfl) (by kernel_rfl) (by kernel_rfl) (fun _ _ _ h => h) (Or.inl ⟨by rfl, fun V _ => (by go_simp)⟩) hHeld ?_
      try simp only [Act.put]
      refine till_go 15 (v := .pointer (some ⟨b, off + k * 2 + 1, none⟩)) rfl (by decide) (by kernel_rfl) (by kernel_rfl) (by kernel_rfl) (fun _ _ _ h => h) (Or.inl ⟨by rfl, fun V _ => (by go_simp)⟩) hHeld ?_
      try simp only [Act.put]
      refine till_take 16 (v := .slice a3 n3 c3) rfl (by decide) (by kernel_rfl) (by kernel_rfl) (by kernel_rfl) (by kernel_rfl) (by kernel_rfl) (fun _ _ _ h => h) (Or.inl ⟨by rfl, fun V hV => (by obtain ⟨v0, v1, v2, v3⟩ := hV; go_simp)⟩) hHeld ?_
      try simp only [Act.put]
      refine till_two 2 10 rfl rfl (by decide) (by decide) (by kernel_rfl) (fun K hK => ?hA) (fun K hK => ?hB)
      case' hA =>
        go_simp
        have pb1 : Below wr.heap.size wr (wr.alloc (.cells #[] 98)).drew := ((Below.refl _ _).alloc (Nat.le_refl _) _).drew
        have or1 : Own (wr.alloc (.cells #[] 98)).drew Wp.heap.size (.slice (some ⟨wr.heap.size, 0, none⟩) 0 0) [] := ownsRow_later (own_empty wr _ _ _ hWr) ((Below.refl _ _).drew)
        refine hK.out _ _ (HSV.out _ pb1) (fun hHeld => ?_)
        clear hK K
        refine till_two 9 10 rfl rfl (by decide) (by decide) (by kernel_rfl) (fun K hK => ?hC) (fun K hK => ?hD)
        case' hC =>
          refine step_rows rfl _ _ rfl Wp.heap.size _ [] rfl or1 a1 n1 c1 cc.1 rfl (HS0.out.below pb1 (Nat.le_refl _)) HN1.out (by simp; omega) (Nat.le_trans hWr (pb1).size) ?_
          intro v4 w4 o4 g4
          simp only [List.nil_append] at o4
          have pb4 : Below wr.heap.size wr w4 := pb1.trans (below_grown g4 (fun k e => by have e2 := Option.some.inj e; simp at e2; omega) pb1.size)
          refine hK.out _ _ (HSV.out _ pb4) (fun hHeld => ?_)
          clear hK K
          refine till_step 10 rfl (by decide) (by kernel_rfl) (fun K hK => ?_)
          go_simp
          have pb5 : Below wr.heap.size wr (w4.alloc (.cells #[] 3)) := pb4.alloc pb4.size _
          have oi5 : OwnI (w4.alloc (.cells #[] 3)) Wp.heap.size (.slice (some ⟨w4.heap.size, 0, none⟩) 0 0) [] := own_empty w4 _ _ _ (Nat.le_trans hWr pb4.size)
          refine hK.out _ _ (HSV.out _ pb5) (fun hHeld => ?_)
          clear hK K
          refine till_step 17 rfl (by decide) (by kernel_rfl) (fun K hK => ?_)
          refine step_ints rfl _ _ rfl Wp.heap.size _ [] rfl oi5 a3 n3 c3 cc.2 rfl (HS1.out.below pb5 (Nat.le_refl _)) HN3.out (by simp; omega) (Nat.le_trans hWr (pb5).size) ?_
          intro v5 w5 o5 g5
          simp only [List.nil_append] at o5
          have q45 : Below w4.heap.size w4 w5 := ((Below.refl _ _).alloc (Nat.le_refl _) _).trans (below_grown g5 (fun k e => by have e2 := Option.some.inj e; simp at e2; omega) (by simp))
          have H5 : Hid (OwnCo w5 Wp.heap.size (v4, v5) cc) := ⟨ownsRow_later o4 q45, o5, HLe.out⟩
          have b5 : Hid (Below wr.heap.size wr w5) := pb4.trans (q45.mono pb4.size)
          refine hK.out _ _ (HSV.out _ b5.out) (fun hHeld => ?_)
          clear hK K o4 o5 g4 g5 or1 oi5 pb1 pb4 pb5 q45
        case' hD =>
          go_simp
          have pb2 : Below wr.heap.size wr ((wr.alloc (.cells #[] 98)).alloc (.cells #[] 3)).drew := (((Below.refl _ _).alloc (Nat.le_refl _) _).alloc (by simp) _).drew
          have or2 : Own ((wr.alloc (.cells #[] 98)).alloc (.cells #[] 3)).drew Wp.heap.size (.slice (some ⟨wr.heap.size, 0, none⟩) 0 0) [] := ownsRow_later ((own_empty wr _ _ _ hWr).alloc _) ((Below.refl _ _).drew)
          have oi2 : OwnI ((wr.alloc (.cells #[] 98)).alloc (.cells #[] 3)).drew Wp.heap.size (.slice (some ⟨wr.heap.size + 1, 0, none⟩) 0 0) [] := ownsRow_later (by have := own_empty (wr.alloc (.cells #[] 98)) Wp.heap.size 3 1 (by simp; omega); simpa using this) ((Below.refl _ _).drew)
          refine hK.out _ _ (HSV.out _ pb2) (fun hHeld => ?_)
          clear hK K
          refine till_step 9 rfl (by decide) (by kernel_rfl) (fun K hK => ?_)
          refine step_rows rfl _ _ rfl Wp.heap.size _ [] rfl or2 a1 n1 c1 cc.1 rfl (HS0.out.below pb2 (Nat.le_refl _)) HN1.out (by simp; omega) (Nat.le_trans hWr (pb2).size) ?_
          intro v4 w4 o4 g4
          simp only [List.nil_append] at o4
          have pb4 : Below wr.heap.size wr w4 := pb2.trans (below_grown g4 (fun k e => by have e2 := Option.some.inj e; simp at e2; omega) pb2.size)
          have oi4 : OwnI w4 Wp.heap.size (.slice (some ⟨wr.heap.size + 1, 0, none⟩) 0 0) [] := own_other oi2 or2 (by decide) g4
          refine hK.out _ _ (HSV.out _ pb4) (fun hHeld => ?_)
          clear hK K
          refine till_step 17 rfl (by decide) (by kernel_rfl) (fun K hK => ?_)
          refine step_ints rfl _ _ rfl Wp.heap.size _ [] rfl oi4 a3 n3 c3 cc.2 rfl (HS1.out.below pb4 (Nat.le_refl _)) HN3.out (by simp; omega) (Nat.le_trans hWr (pb4).size) ?_
          intro v5 w5 o5 g5
          simp only [List.nil_append] at o5
          have H5 : Hid (OwnCo w5 Wp.heap.size (v4, v5) cc) := ⟨own_other o4 oi4 (by decide) g5, o5, HLe.out⟩
          have b5 : Hid (Below wr.heap.size wr w5) := pb4.trans (below_grown g5 (fun k e => by have e2 := Option.some.inj e; simp at e2; omega) pb4.size)
          refine hK.out _ _ (HSV.out _ b5.out) (fun hHeld => ?_)
          clear hK K o4 o5 g4 g5 or1 or2 oi2 oi4 pb1 pb2 pb4
      case' hB =>
        go_simp
        have pb1 : Below wr.heap.size wr (wr.alloc (.cells #[] 3)).drew := ((Below.refl _ _).alloc (Nat.le_refl _) _).drew
        refine hK.out _ _ (HSV.out _ pb1) (fun hHeld => ?_)
        clear hK K
        refine till_step 2 rfl (by decide) (by kernel_rfl) (fun K hK => ?_)
        go_simp
        have pb2 : Below wr.heap.size wr ((wr.alloc (.cells #[] 3)).alloc (.cells #[] 98)).drew := (((Below.refl _ _).alloc (Nat.le_refl _) _).alloc (by simp) _).drew
        have oi2 : OwnI ((wr.alloc (.cells #[] 3)).alloc (.cells #[] 98)).drew Wp.heap.size (.slice (some ⟨wr.heap.size, 0, none⟩) 0 0) [] := ownsRow_later ((own_empty wr _ _ _ hWr).alloc _) ((Below.refl _ _).drew)
        have or2 : Own ((wr.alloc (.cells #[] 3)).alloc (.cells #[] 98)).drew Wp.heap.size (.slice (some ⟨wr.heap.size + 1, 0, none⟩) 0 0) [] := ownsRow_later (by have := own_empty (wr.alloc (.cells #[] 3)) Wp.heap.size 98 2 (by simp; omega); simpa [YtcgpgflnihjpiafGreat.enc] using this) ((Below.refl _ _).drew)
        refine hK.out _ _ (HSV.out _ pb2) (fun hHeld => ?_)
        clear hK K
        refine till_step 9 rfl (by decide) (by kernel_rfl) (fun K hK => ?_)
        refine step_rows rfl _ _ rfl Wp.heap.size _ [] rfl or2 a1 n1 c1 cc.1 rfl (HS0.out.below pb2 (Nat.le_refl _)) HN1.out (by simp; omega) (Nat.le_trans hWr (pb2).size) ?_
        intro v4 w4 o4 g4
        simp only [List.nil_append] at o4
        have pb4 : Below wr.heap.size wr w4 := pb2.trans (below_grown g4 (fun k e => by have e2 := Option.some.inj e; simp at e2; omega) pb2.size)
        have oi4 : OwnI w4 Wp.heap.size (.slice (some ⟨wr.heap.size, 0, none⟩) 0 0) [] := own_other oi2 or2 (by decide) g4
        refine hK.out _ _ (HSV.out _ pb4) (fun hHeld => ?_)
        clear hK K
        refine till_step 17 rfl (by decide) (by kernel_rfl) (fun K hK => ?_)
        refine step_ints rfl _ _ rfl Wp.heap.size _ [] rfl oi4 a3 n3 c3 cc.2 rfl (HS1.out.below pb4 (Nat.le_refl _)) HN3.out (by simp; omega) (Nat.le_trans hWr (pb4).size) ?_
        intro v5 w5 o5 g5
        simp only [List.nil_append] at o5
        have H5 : Hid (OwnCo w5 Wp.heap.size (v4, v5) cc) := ⟨own_other o4 oi4 (by decide) g5, o5, HLe.out⟩
        have b5 : Hid (Below wr.heap.size wr w5) := pb4.trans (below_grown g5 (fun k e => by have e2 := Option.some.inj e; simp at e2; omega) pb4.size)
        refine hK.out _ _ (HSV.out _ b5.out) (fun hHeld => ?_)
        clear hK K o4 o5 g4 g5 or2 oi2 oi4 pb1 pb2 pb4
      all_goals
        obtain ⟨ua, uc, e4, _⟩ := H5.out.1.rd
        obtain ⟨ub, ud, e5, _⟩ := H5.out.2.1.ri
        obtain ⟨u1, hu1⟩ : ∃ u1, u1 = cc.1.length := ⟨_, rfl⟩
        obtain ⟨u3, hu3⟩ : ∃ u3, u3 = cc.2.length := ⟨_, rfl⟩
        rw [← hu1] at e4
        rw [← hu3] at e5
        dsimp only at e4 e5
        subst e4 e5
        clear hu1 hu3
        have hs5 : wr.heap.size ≤ w5.heap.size := b5.out.size
        have HRA : Hid ((w5.alloc (.cells #[.slice ua u1 uc, .slice ub u3 ud] 51)).ownsRow Wp.heap.size 51 2 (.slice xa xn xc) k (encP vals)) := (ownsRow_later HRow.out b5.out).alloc _
        have pb6 : Below wr.heap.size wr (w5.alloc (.cells #[.slice ua u1 uc, .slice ub u3 ud] 51)) := b5.out.alloc hs5 _
        refine till_go 18 (v := .agg #[.slice ua u1 uc, .slice ub u3 ud]) rfl (by decide) (by kernel_rfl) (by kernel_rfl) (by kernel_rfl) (fun _ _ _ h => h) (Or.inl ⟨by rfl, fun V _ => (by go_simp)⟩) hHeld ?_
        try simp only [Act.put]
        refine till_step 19 rfl (by decide) (by kernel_rfl) (fun K hK => ?_)
        go_simp
        refine hK.out _ _ (HSV.out _ pb6) (fun hHeld => ?_)
        clear hK K
        refine till_step 20 rfl (by decide) (by kernel_rfl) (fun K hK => ?_)
        refine step_append_lies _ rfl _ _ 22 rfl Wp.heap.size 51 i1 (.agg #[.slice none 0 0, .slice none 0 0]) 2 48 Tryz.underlying22 hi1 hy0 hy1 hy2 rfl (by decide) _ k (encP vals) rfl HRA.out ⟨w5.heap.size, 0, none⟩ 1 1 [.slice ua u1 uc, .slice ub u3 ud] rfl rfl (cell_pair_new _ _ _ _) (by simp [Value.oneCell']) (by decide) (by simp only [maxLen]; omega) (by omega) (by simp; omega) _ rfl ?_
        intro g6 cap6 w6 h6 h7 _ _
        obtain ⟨P1, P2⟩ := rown_end HCl.out HVl.out HRow.out HEl.out hDW b5.out (HOk.out.later b5.out) H5.out h6 h7
        have k6 : w6.cell? ⟨D, 0, none⟩ = some (.slice xa xn xc) := by rw [cell_of_row _ _ _ _ _ _ P2]; rfl
        have f6 : w6.frozen? ⟨D, 0, none⟩ = false := frozen_of_row _ _ _ _ _ P2
        have g6b : ∀ q, q < wr.heap.size → q ≠ D → w6.heap[q]? = wr.heap[q]? ∨ (Value.slice xa xn xc).ownBlock = some q := fun q hq _ => by
          by_cases e : (Value.slice xa xn xc).ownBlock = some q
          · exact Or.inr e
          · exact Or.inl ((h7.block q (by simp; omega) (fun e2 => e e2.symm)).trans (pb6.block q hq))
        have typ : ∀ q, (Value.slice xa xn xc).ownBlock = some q → Wp.heap.size ≤ q := fun q e => (World.ownsRow.lt HRow.out q e).1
        have low : ∀ q, q < Wp.heap.size → w6.heap[q]? = wr.heap[q]? := fun q hq => by
          rcases g6b q (by omega) (by omega) with h | h
          · exact h
          · have := typ q h; omega
        have hA6 : Hid (w6.cell? ⟨D, 0, none⟩ = some (.slice xa xn xc) ∧ w6.cell? ⟨p, 0, none⟩ = some (.slice (some ⟨b, off, none⟩) n cap) ∧ w6.cell? ⟨b, off + k * 2, none⟩ = some (.slice a1 n1 c1) ∧ w6.cell? ⟨b, off + k * 2 + 1, none⟩ = some (.slice a3 n3 c3)) := by
          have hp2 := HSp.out
          exact ⟨k6, (World.cell?_of_block (a := ⟨p, 0, none⟩) (low p (by omega))).trans d0, (World.cell?_of_block (a := ⟨b, off + k * 2, none⟩) (low b hBp)).trans t0, (World.cell?_of_block (a := ⟨b, off + k * 2 + 1, none⟩) (low b hBp)).trans t1⟩
        have HE6 : Aside (RAt Wp D (.slice (some ⟨g6, 0, none⟩) (k + 1) cap6) (.slice ya yn yc) (C.take (k + 1)) H (w6.setCell ⟨D, 0, none⟩ (.slice (some ⟨g6, 0, none⟩) (k + 1) cap6))) := by unfold Aside; rw [ET.out]; exact P1
        clear P1 P2 h6 h7 g6b typ low
        refine hK.out _ _ hA6.out (fun hHeld => ?_)
        clear hK K
        refine till_go 21 (v := .pointer (some ⟨D, 0, none⟩)) rfl (by decide) (by kernel_rfl) (by kernel_rfl) (by kernel_rfl) (fun _ _ _ h => h) (Or.inl ⟨by rfl, fun V _ => (by go_simp)⟩) hHeld ?_
        try simp only [Act.put]
        refine till_last rfl (by kernel_rfl) (by kernel_rfl) (fun K hK => ?_) _
        go_simp
        refine hK.out _ _ ?_
        clear hK K
        clear hA6 HRA H5 HSV pb6 b5
        go_wp2
        go_roundg (gk - 1)
        case measure => omega
        case rel => exact ⟨k + 1, _, by omega, by go_num, HE6⟩
    · obtain rfl : k = n := by omega
      have hkk2 : decide ((k : Int) < (k : Int)) = false := by simp
      have hO := HOk.out
      rw [List.take_of_length_le (by rw [J.cm.1]; omega)] at hO
      obtain ⟨xa, xc, rfl, _⟩ := hO.k.cm
      obtain ⟨xn, hxn⟩ : ∃ xn, xn = C.length := ⟨_, rfl⟩
      rw [← hxn] at hO
      have r2 : wr.heap[p + 1]? = some (.cells #[.slice none 0 0, .slice none 0 0] 25 (0, 0)) := (hbel.block (p + 1) (by have := HSp.out; omega)).trans HQ2.out
      have e0 : wr.cell? ⟨D, 0, none⟩ = some (.slice xa xn xc) := by rw [cell_of_row _ _ _ _ _ _ hO.blk]; rfl
      have e1 : wr.cell? ⟨D, 1, none⟩ = some (.slice ya yn yc) := by rw [cell_of_row _ _ _ _ _ _ hO.blk]; rfl
      have HRO : Aside (RepoOwn ((wr.setCell ⟨p + 1, 0, none⟩ (.slice xa xn xc)).setCell ⟨p + 1, 1, none⟩ (.slice ya yn yc)) w.heap.size (.agg #[.slice xa xn xc, .slice ya yn yc]) C H) := (repoOwn_set r2 hO.k hO.h).lower (by have := HSp.out; have := HP.out; omega)
      obtain ⟨g1, g2, g3⟩ := res_set r2 (.slice xa xn xc) (.slice ya yn yc)
      obtain ⟨X, hX⟩ : ∃ X, X = (wr.setCell ⟨p + 1, 0, none⟩ (.slice xa xn xc)).setCell ⟨p + 1, 1, none⟩ (.slice ya yn yc) := ⟨_, rfl⟩
      rw [← hX] at g1 HRO
      have hbw : Below w.heap.size w wr := hbp.trans (hbel.mono hbp.size)
      have bX : Below w.heap.size w X := by rw [hX]; exact (hbw.setCell (p := ⟨p + 1, 0, none⟩) (by show _ ≤ p + 1; have := HP.out; omega) _).setCell (p := ⟨p + 1, 1, none⟩) (by show _ ≤ p + 1; have := HP.out; omega) _
      have HX9 : Hid (X = (wr.setCell ⟨p + 1, 0, none⟩ (.slice xa xn xc)).setCell ⟨p + 1, 1, none⟩ (.slice ya yn yc)) := hX
      have HX0 : Aside (X.cell? ⟨p + 1, 0, none⟩ = some (.slice xa xn xc)) := by unfold Aside; rw [cell_of_row _ _ _ _ _ _ g1]; rfl
      have HX1 : Aside (X.cell? ⟨p + 1, 1, none⟩ = some (.slice ya yn yc)) := by unfold Aside; rw [cell_of_row _ _ _ _ _ _ g1]; rfl
      have x0 : wr.cell? ⟨p + 1, 0, none⟩ = some (.slice none 0 0) := by rw [cell_of_row _ _ _ _ _ _ r2]; rfl
      have x1 : wr.cell? ⟨p + 1, 1, none⟩ = some (.slice none 0 0) := by rw [cell_of_row _ _ _ _ _ _ r2]; rfl
      have f0 : wr.frozen? ⟨p + 1, 0, none⟩ = false := frozen_of_row _ _ _ _ _ r2
      have f1 : wr.frozen? ⟨p + 1, 1, none⟩ = false := frozen_of_row _ _ _ _ _ r2
      clear g1 g2 g3 hX r2 hO HOk J JV hxn
      go_wp2
      rw [← HX9.out]
      have y0 := HX0.out
      have y1 := HX1.out
      refine bodyPost_ret (v := .agg #[.slice xa xn xc, .slice ya yn yc]) (by simp [results, Tryz.results103, go_sem, y0, y1]) rfl ?_
      exact ⟨_, rfl, HRO.out, bX⟩
end Go.Proofs.YtcgpgflnihjpiafGreat

/- Plain facts on repos that have changed, with no program in sight. -/
namespace Go.Proofs.YtcgpgflnihjpiafGreat.M
open Go.RowKit

theorem alike_iff (s t : ByteArray) : alike s t = true ↔ s = t := by
  unfold alike
  rw [beq_iff_eq, ByteArray.toList_eq, ByteArray.toList_eq]
  constructor
  · intro h
    have : s.data = t.data := Array.ext' h
    cases s; cases t; simp_all
  · rintro rfl; rfl
theorem less_irr (s : ByteArray) : less s s = false := bless_irr _

/-! ### names -/
def nms (H : List Hd) : List ByteArray := H.map Prod.fst
theorem riseF_nms : ∀ (H H' : List Hd) (s : ByteArray), nms H = nms H' → riseF s H = riseF s H'
  | [], [], _, _ => rfl
  | [], _ :: _, _, h => by simp [nms] at h
  | _ :: _, [], _, h => by simp [nms] at h
  | x :: t, y :: u, s, h => by
    simp only [nms, List.map_cons, List.cons.injEq] at h
    simp only [riseF]
    rw [h.1, riseF_nms t u _ h.2]
theorem rise_nms : ∀ (H H' : List Hd), nms H = nms H' → rise H = rise H'
  | [], [], _ => rfl
  | [], _ :: _, h => by simp [nms] at h
  | _ :: _, [], h => by simp [nms] at h
  | x :: t, y :: u, h => by
    simp only [nms, List.map_cons, List.cons.injEq] at h
    simp only [rise]
    rw [h.1, riseF_nms t u _ h.2]
theorem named_nms (H H' : List Hd) (h : nms H = nms H') : named H = named H' := by
  have e : ∀ H : List Hd, named H = (nms H).all nam := fun H => by unfold named nms; rw [List.all_map]; rfl
  rw [e, e, h]
theorem riseF_all : ∀ (H : List Hd) (s : ByteArray), riseF s H = true → (∀ h ∈ H, less s h.1 = true) ∧ H.Pairwise (fun a b => less a.1 b.1 = true)
  | [], _, _ => ⟨fun _ h => by simp at h, List.Pairwise.nil⟩
  | x :: t, s, h => by
    simp only [riseF, Bool.and_eq_true] at h
    obtain ⟨h1, h2⟩ := riseF_all t x.1 h.2
    refine ⟨fun y hy => ?_, List.pairwise_cons.2 ⟨h1, h2⟩⟩
    rcases List.mem_cons.1 hy with rfl | hy
    · exact h.1
    · exact less_trans h.1 (h1 y hy)
theorem rise_all {H : List Hd} (h : rise H = true) : H.Pairwise (fun a b => less a.1 b.1 = true) := by
  cases H with
  | nil => exact List.Pairwise.nil
  | cons x t =>
    obtain ⟨h1, h2⟩ := riseF_all t x.1 h
    exact List.pairwise_cons.2 ⟨h1, h2⟩
theorem riseF_of : ∀ (H : List Hd) (s : ByteArray), (∀ h ∈ H, less s h.1 = true) → H.Pairwise (fun a b => less a.1 b.1 = true) → riseF s H = true
  | [], _, _, _ => rfl
  | x :: t, s, h1, h2 => by
    simp only [riseF, Bool.and_eq_true]
    exact ⟨h1 x (by simp), riseF_of t x.1 (List.pairwise_cons.1 h2).1 (List.pairwise_cons.1 h2).2⟩
theorem rise_of {H : List Hd} (h : H.Pairwise (fun a b => less a.1 b.1 = true)) : rise H = true := by
  cases H with
  | nil => rfl
  | cons x t => exact riseF_of t x.1 (List.pairwise_cons.1 h).1 (List.pairwise_cons.1 h).2
/-- Heads that rise have each name once. -/
theorem rise_once {H : List Hd} (h : H.Pairwise (fun a b => less a.1 b.1 = true)) : ∀ a ∈ H, ∀ b ∈ H, a.1 = b.1 → a = b := by
  induction H with
  | nil => intro a ha; simp at ha
  | cons x t ih =>
    obtain ⟨h1, h2⟩ := List.pairwise_cons.1 h
    intro a ha b hb e
    rcases List.mem_cons.1 ha with rfl | ha' <;> rcases List.mem_cons.1 hb with rfl | hb'
    · rfl
    · have := h1 b hb'; rw [e, less_irr] at this; simp at this
    · have := h1 a ha'; rw [e, less_irr] at this; simp at this
    · exact ih h2 a ha' b hb' e

theorem rchk_of {C : List Com} {H : List Hd} (h1 : dchk C = 0) (h2 : H.length ≤ 4) (h3 : named H = true) (h4 : inside C.length H = true) (h5 : rise H = true) : rchk C H = 0 := by
  unfold rchk
  rw [if_neg (by rw [h1]; simp), if_neg (by omega), if_neg (by rw [h3]; simp), if_neg (by rw [h4]; simp), if_neg (by rw [h5]; simp)]

theorem hd_mem {C : List Com} {H : List Hd} (hr : rchk C H = 0) {t : ByteArray} {y : Int} (hm : (t, y) ∈ H) : hchk C H t = 0 ∧ hat C H t = y := by
  have hp : 0 ≤ plc H t := (idxF_neg _ H 0).2 (List.any_eq_true.2 ⟨(t, y), hm, (alike_iff t t).2 rfl⟩)
  have hc : hchk C H t = 0 := by unfold hchk; rw [if_neg (by rw [hr]; simp), if_neg (by omega)]
  have hl := plc_lt H t
  have ha := idxF_at (fun h : Hd => alike h.1 t) H 0 hd0 hp
  rw [Nat.sub_zero] at ha
  have hk : (plc H t).toNat < H.length := by omega
  have hmem : H.getD (plc H t).toNat hd0 ∈ H := by simp [List.getD, hk]
  have e1 : (H.getD (plc H t).toNat hd0).1 = t := (alike_iff _ _).1 ha
  have e2 := rise_once (rise_all (rchk_zero hr).2.2.2.2) _ hmem _ hm e1
  refine ⟨hc, ?_⟩
  unfold hat
  rw [if_neg (by rw [hc]; simp), e2]
theorem hd_none {C : List Com} {H : List Hd} (hr : rchk C H = 0) {t : ByteArray} (hn : ∀ y, (t, y) ∉ H) : hchk C H t = 5 ∧ hat C H t = 0 := by
  have hp : plc H t < 0 := by
    by_cases h : 0 ≤ plc H t
    · obtain ⟨x, hx, hx2⟩ := List.any_eq_true.1 ((idxF_neg _ H 0).1 h)
      have e : x.1 = t := (alike_iff _ _).1 hx2
      exact absurd (show (t, x.2) ∈ H by rw [← e]; exact hx) (hn x.2)
    · omega
  have hc : hchk C H t = 5 := by unfold hchk; rw [if_neg (by rw [hr]; simp), if_pos hp]
  refine ⟨hc, ?_⟩
  unfold hat
  rw [if_pos (by rw [hc]; simp)]
theorem hd_in {C : List Com} {H : List Hd} {t : ByteArray} (h : hchk C H t = 0) : (t, hat C H t) ∈ H := by
  obtain ⟨hr, hp⟩ := hchk_zero h
  by_cases hn : ∀ y, (t, y) ∉ H
  · have := (hd_none hr hn).1; omega
  · simp only [Classical.not_forall, Classical.not_not] at hn
    obtain ⟨y, hy⟩ := hn
    rw [(hd_mem hr hy).2]; exact hy
theorem hd_same {C C' : List Com} {H H' : List Hd} (hr : rchk C H = 0) (hr' : rchk C' H' = 0) {t : ByteArray} (h : ∀ y, (t, y) ∈ H ↔ (t, y) ∈ H') : hchk C H t = hchk C' H' t ∧ hat C H t = hat C' H' t := by
  by_cases hn : ∀ y, (t, y) ∉ H
  · obtain ⟨a1, a2⟩ := hd_none hr hn
    obtain ⟨b1, b2⟩ := hd_none hr' (fun y hy => hn y ((h y).2 hy))
    exact ⟨a1.trans b1.symm, a2.trans b2.symm⟩
  · simp only [Classical.not_forall, Classical.not_not] at hn
    obtain ⟨y, hy⟩ := hn
    obtain ⟨a1, a2⟩ := hd_mem hr hy
    obtain ⟨b1, b2⟩ := hd_mem hr' ((h y).1 hy)
    exact ⟨a1.trans b1.symm, a2.trans b2.symm⟩

/-! ### a head that is moved -/
def setH (H : List Hd) (k : Nat) (x : Int) : List Hd := H.set k ((H.getD k hd0).1, x)
theorem nms_set (H : List Hd) (k : Nat) (x : Int) : nms (setH H k x) = nms H := by
  unfold nms setH
  refine List.ext_getElem (by simp) fun i h1 h2 => ?_
  simp only [List.getElem_map, List.getElem_set]
  split
  · rename_i e; subst e
    have : k < H.length := by simpa using h2
    simp [List.getD, this]
  · rfl
theorem set_mem {H : List Hd} {k : Nat} {x : Int} (hk : k < H.length) (h : H.Pairwise (fun a b => less a.1 b.1 = true)) (t : ByteArray) (y : Int) : (t, y) ∈ setH H k x ↔ (t = (H.getD k hd0).1 ∧ y = x) ∨ (t ≠ (H.getD k hd0).1 ∧ (t, y) ∈ H) := by
  have hm : H.getD k hd0 ∈ H := by simp [List.getD, hk]
  have ek : H.getD k hd0 = H[k] := by simp [List.getD, hk]
  unfold setH
  constructor
  · intro hmem
    obtain ⟨i, hi, e⟩ := List.getElem_of_mem hmem
    rw [List.getElem_set] at e
    split at e
    · left; exact ⟨(congrArg Prod.fst e).symm, (congrArg Prod.snd e).symm⟩
    · rename_i hne
      right
      have hi2 : i < H.length := by simpa using hi
      refine ⟨fun he => ?_, by rw [← e]; exact List.getElem_mem hi2⟩
      rcases Nat.lt_or_gt_of_ne hne with hlt | hlt
      · have := List.pairwise_iff_getElem.1 h k i hk hi2 hlt
        rw [e, ← ek, ← he, less_irr] at this; simp at this
      · have := List.pairwise_iff_getElem.1 h i k hi2 hk hlt
        rw [e, ← ek, ← he, less_irr] at this; simp at this
  · rintro (⟨rfl, rfl⟩ | ⟨h1, h2⟩)
    · exact List.mem_iff_getElem.2 ⟨k, by simpa using hk, by simp⟩
    · obtain ⟨i, hi, e⟩ := List.getElem_of_mem h2
      refine List.mem_iff_getElem.2 ⟨i, by simpa using hi, ?_⟩
      rw [List.getElem_set, if_neg, e]
      intro hki
      subst hki
      rw [← ek] at e
      exact h1 (by rw [e])
theorem inside_mono {n n' : Nat} (hn : n ≤ n') {H : List Hd} (h : inside n H = true) : inside n' H = true := by
  refine (inside_iff n' H).2 fun k hk => ?_
  have := (inside_iff n H).1 h k hk
  omega
theorem inside_mem {n : Nat} {H : List Hd} : inside n H = true ↔ ∀ h ∈ H, 0 ≤ h.2 ∧ h.2 < (n : Int) := by
  unfold inside; rw [List.all_eq_true]; simp
theorem named_mem {H : List Hd} : named H = true ↔ ∀ h ∈ H, nam h.1 = true := by
  unfold named; rw [List.all_eq_true]
theorem rchk_set {C C' : List Com} {H : List Hd} (hr : rchk C H = 0) (hd : dchk C' = 0) (hl : C.length ≤ C'.length) {k : Nat} {x : Int} (h0 : 0 ≤ x) (h1 : x < (C'.length : Int)) : rchk C' (setH H k x) = 0 := by
  obtain ⟨a1, a2, a3, a4, a5⟩ := rchk_zero hr
  have e := nms_set H k x
  refine rchk_of hd (by unfold setH; simpa using a2) (by rw [named_nms _ _ e]; exact a3) ?_ (by rw [rise_nms _ _ e]; exact a5)
  refine inside_mem.2 fun h hm => ?_
  have a4 := inside_mem.1 (inside_mono hl a4)
  unfold setH at hm
  rcases List.mem_or_eq_of_mem_set hm with hm | rfl
  · exact a4 h hm
  · exact ⟨h0, h1⟩
/-- The head that is moved, and the others. -/
theorem moved {C C' : List Com} {H : List Hd} {s : ByteArray} {x : Int} (hs : hchk C H s = 0) (hr' : rchk C' (setH H (plc H s).toNat x) = 0) :
    (hchk C' (setH H (plc H s).toNat x) s = 0 ∧ hat C' (setH H (plc H s).toNat x) s = x) ∧ ∀ t, t ≠ s → hchk C' (setH H (plc H s).toNat x) t = hchk C H t ∧ hat C' (setH H (plc H s).toNat x) t = hat C H t := by
  obtain ⟨hr, hp⟩ := hchk_zero hs
  have hl := plc_lt H s
  have hk : (plc H s).toNat < H.length := by omega
  have ha := idxF_at (fun h : Hd => alike h.1 s) H 0 hd0 hp
  rw [Nat.sub_zero] at ha
  have e1 : (H.getD (plc H s).toNat hd0).1 = s := (alike_iff _ _).1 ha
  have S := fun t y => set_mem (x := x) hk (rise_all (rchk_zero hr).2.2.2.2) t y
  rw [e1] at S
  refine ⟨hd_mem hr' ((S s x).2 (Or.inl ⟨rfl, rfl⟩)), fun t ht => hd_same hr' hr fun y => ?_⟩
  rw [S t y]
  simp [ht]

/-! ### a commit more -/
theorem dchkF_snoc (c : Com) (hc : chk c.1 = 0) : ∀ (L : List Com) (n : Nat), dchkF n L = 0 → pr (n + L.length) c.2 = true → dchkF n (L ++ [c]) = 0
  | [], n, _, hp => by
    simp only [List.nil_append, dchkF]
    rw [if_neg (by rw [hc]; simp), if_pos (by simpa using hp)]
  | d :: t, n, h, hp => by
    rw [List.cons_append, dchkF]
    rw [dchkF] at h
    split at h
    · rename_i h1; exact absurd h h1
    · rename_i h1
      split at h
      · rename_i h2
        rw [if_neg h1, if_pos h2]
        exact dchkF_snoc c hc t (n + 1) h (by rw [show n + 1 + t.length = n + (d :: t).length by simp; omega]; exact hp)
      · omega
theorem dchk_snoc {L : List Com} {c : Com} (h : dchk L = 0) (hl : L.length < 14) (hc : chk c.1 = 0) (hp : pr L.length c.2 = true) : dchk (L ++ [c]) = 0 := by
  rw [dchk_few _ (by simp; omega)]
  rw [dchk_few _ (by omega)] at h
  exact dchkF_snoc c hc L 0 h (by simpa using hp)
theorem pr_one {n : Nat} {x : Int} (h0 : 0 ≤ x) (h1 : x < (n : Int)) : pr n [x] = true := by
  unfold pr ris ris
  simp; omega
theorem pr_two {n : Nat} {x y : Int} (h0 : 0 ≤ x) (h1 : x < y) (h2 : y < (n : Int)) : pr n [x, y] = true := by
  unfold pr ris ris ris
  simp; omega
theorem mrows_ok {b l m : List (Int × Int)} (h : mergeE b l m = 0) : chk (mrows b l m) = 0 := by
  unfold mergeE at h
  split at h
  · rename_i h1; exact absurd h h1
  · rename_i h1
    split at h
    · rename_i h2; exact absurd h h2
    · rename_i h2
      split at h
      · rename_i h3; exact absurd h h3
      · rename_i h3
        split at h
        · omega
        · rename_i h4
          refine (chk_zero _).2 ⟨by omega, ofTab_ok _ fun i _ => ?_⟩
          have r1 := find_range (key := (i : Int)) ((chk_zero b).1 (by simpa using h1)).2
          have r2 := find_range (key := (i : Int)) ((chk_zero l).1 (by simpa using h2)).2
          have r3 := find_range (key := (i : Int)) ((chk_zero m).1 (by simpa using h3)).2
          unfold mtab mval
          split
          · exact r2
          · split
            · exact r3
            · exact r2
theorem patchE_parts {l : List (Int × Int)} {d : List Chg} (h : patchE l d = 0) : chk l = 0 ∧ fine d = true ∧ clashF l d = false ∧ (ofTab (tab (fun k => find k l) d)).length ≤ 40 := by
  unfold patchE at h
  split at h
  · rename_i h1; exact absurd h h1
  · rename_i h1
    split at h
    · omega
    · rename_i h2
      split at h
      · omega
      · rename_i h3
        split at h
        · omega
        · rename_i h4
          exact ⟨by simpa using h1, by simpa using h2, by simpa using h3, by omega⟩
theorem patchV_ok {l : List (Int × Int)} {d : List Chg} (h : patchE l d = 0) : chk (patchV l d) = 0 := by
  obtain ⟨h1, h2, h3, h4⟩ := patchE_parts h
  unfold patchV
  rw [if_pos h]
  refine (chk_zero _).2 ⟨h4, ofTab_ok _ fun i hi => ?_⟩
  have F := (fine_iff d).1 h2
  rcases tab_cases (fun k => find k l) d F.2 (i : Int) with ⟨c, hc, _, e⟩ | ⟨_, e⟩
  · rw [e]; have := F.1 c hc; omega
  · rw [e]; exact find_range ((chk_zero l).1 h1).2

/-! ### heads that are sorted in, and heads that are taken out -/
theorem insH_rise {x : Hd} {H : List Hd} (h : H.Pairwise (fun a b => less a.1 b.1 = true)) (hn : ∀ y ∈ H, y.1 ≠ x.1) : (insH x H).Pairwise (fun a b => less a.1 b.1 = true) := by
  induction H with
  | nil => simp [insH]
  | cons y t ih =>
    obtain ⟨h1, h2⟩ := List.pairwise_cons.1 h
    unfold insH
    split
    · rename_i hl
      refine List.pairwise_cons.2 ⟨fun z hz => ?_, h⟩
      rcases List.mem_cons.1 hz with rfl | hz
      · exact hl
      · exact less_trans hl (h1 z hz)
    · rename_i hl
      refine List.pairwise_cons.2 ⟨fun z hz => ?_, ih h2 (fun z hz => hn z (by simp [hz]))⟩
      rcases (insH_mem x t z).1 hz with hzx | hz
      · rw [hzx]
        have hl : less x.1 y.1 = false := by simpa using hl
        have := leq_not x.1 y.1
        cases hyx : less y.1 x.1 with
        | true => rfl
        | false =>
          rw [hyx] at this
          have e2 : (Op.bytesLess x.1.toList y.1.toList) = false := hl
          rw [e2] at this
          simp only [Bool.false_or, Bool.not_false] at this
          exact absurd ((alike_iff x.1 y.1).1 this).symm (hn y (by simp))
      · exact h1 z hz
end Go.Proofs.YtcgpgflnihjpiafGreat.M

/- The reference's grown. -/
namespace Go.Proofs.YtcgpgflnihjpiafGreat
open Go.RowKit Go.Shelf

theorem Cm.nth {w : World} {a : Option Addr} {n : Nat} {C : List M.Com} (h : Cm w a n C) {k : Nat} (hk : k < n) : ∃ b off, a = some ⟨b, off, none⟩ ∧ b < w.heap.size ∧ ∃ a1 n1 c1 a2 n2 c2, w.cell? ⟨b, off + k * 2, none⟩ = some (.slice a1 n1 c1) ∧ w.cell? ⟨b, off + k * 2 + 1, none⟩ = some (.slice a2 n2 c2) ∧ Rd w a1 n1 (C.getD k ([], [])).1 ∧ Ri w a2 n2 (C.getD k ([], [])).2 ∧ n1 ≤ 9223372036854775807 ∧ n2 ≤ 9223372036854775807 := by
  rcases h.cases with ⟨h0, _⟩ | ⟨b, off, e, _, _, hB, hc⟩
  · omega
  · exact ⟨b, off, e, hB, hc k hk⟩
/-- A repo of the call's own in the box D, whose head k is set at another commit. -/
theorem boxed_moved {w : World} {B D g cap k : Nat} {x : Value} {C : List M.Com} {H : List M.Hd} (n : Int) (h1 : w.heap[D]? = some (.cells #[x, .slice (some ⟨g, 0, none⟩) H.length cap] 25 (0, 0))) (h3 : OwnK w B x C) (h4 : OwnH w B (.slice (some ⟨g, 0, none⟩) H.length cap) H) (hk : k < H.length) :
    (w.setCell ⟨g, k * 2 + 1, none⟩ (.int .i64 n)).heap[D]? = some (.cells #[x, .slice (some ⟨g, 0, none⟩) H.length cap] 25 (0, 0)) ∧ OwnK (w.setCell ⟨g, k * 2 + 1, none⟩ (.int .i64 n)) B x C ∧ OwnH (w.setCell ⟨g, k * 2 + 1, none⟩ (.int .i64 n)) B (.slice (some ⟨g, 0, none⟩) H.length cap) (M.setH H k n) ∧ w.frozen? ⟨g, k * 2 + 1, none⟩ = false ∧ B ≤ g ∧ w.cell? ⟨g, k * 2 + 1, none⟩ = some (.int .i64 (H.getD k M.hd0).2) := by
  have h40 := h4.1
  obtain ⟨⟨hl, hor⟩, hsm⟩ := h4
  rcases hor with ⟨e, _⟩ | ⟨g', cap', cur, e, hb, hh, hc, hm, hz, hx⟩
  · simp at e
  · simp only [Value.slice.injEq, Option.some.injEq, Addr.mk.injEq] at e
    obtain ⟨⟨rfl, _⟩, _, rfl⟩ := e
    have gg := grownBy_set w ⟨g, k * 2 + 1, none⟩ (.int .i64 n)
    have hgD : g ≠ D := fun e => by rw [e, h1] at hh; simp at hh
    refine ⟨?_, h3.elsewhere gg hh (by decide) (by decide) (by decide), ⟨⟨?_, Or.inr ⟨g, cap, cur.setIfInBounds (k * 2 + 1) (.int .i64 n), by simp [M.setH], hb, ?_, by simpa [M.setH] using hc, hm, by simpa using hz, ?_⟩⟩, ?_⟩, frozen_of_row _ _ _ _ _ hh, hb, ?_⟩
    · rw [heap_setCell_other _ _ _ _ (fun e => hgD e.symm)]; exact h1
    · simp [encH_length]
    · exact heap_setCell_same _ _ _ _ _ _ hh
    · unfold M.setH
      rw [encH_set H k n hk, Array.toList_setIfInBounds, List.length_set, List.take_set, hx]
    · intro y hy
      rcases List.mem_or_eq_of_mem_set hy with hy | rfl
      · exact hsm y hy
      · exact hsm (H.getD k M.hd0) (by simp [List.getD, hk])
    · rw [World.ownsRow.cellAt h40 (k * 2 + 1) (by omega), encH_at H k hk]
theorem OwnCo.lower {w : World} {base base' : Nat} {p : Value × Value} {c : M.Com} (h : OwnCo w base p c) (hb : base' ≤ base) : OwnCo w base' p c := ⟨ownsRow_lower h.1 hb, ownsRow_lower h.2.1 hb, h.2.2⟩
/-- .. to which a commit is appended. -/
theorem boxed_grown {w w' : World} {B Bx D : Nat} {x x' y : Value} {C : List M.Com} {c : M.Com} {q : Value × Value} {H : List M.Hd} {vals : List (Value × Value)} (hB : B ≤ Bx) (hBw : Bx ≤ w.heap.size) (blk : w.heap[D]? = some (.cells #[x, y] 25 (0, 0))) (hH : OwnH w Bx y H) (tmp : Obj) (hl : vals.length = C.length) (h1 : w.ownsRow Bx 51 2 x C.length (encP vals)) (h2 : ∀ i, i < C.length → OwnCo w Bx (vals.getD i vp0) (C.getD i ([], [])))
    (hq : OwnCo w B q c) (h3 : w'.ownsRow Bx 51 2 x' (C.length + 1) (encP vals ++ [q.1, q.2])) (hg : (w.alloc tmp).grownBy w' x.ownBlock) :
    OwnK (w'.setCell ⟨D, 0, none⟩ x') B x' (C ++ [c]) ∧ OwnH (w'.setCell ⟨D, 0, none⟩ x') B y H ∧ (w'.setCell ⟨D, 0, none⟩ x').heap[D]? = some (.cells #[x', y] 25 (0, 0)) ∧ w'.heap[D]? = some (.cells #[x, y] 25 (0, 0)) ∧ Below Bx w w' := by
  have hlt := (Array.getElem?_eq_some_iff.1 blk).1
  have typ : ∀ r, x.ownBlock = some r → ∃ cur, (w.alloc tmp).heap[r]? = some (.cells cur 51 (0, 0)) := by
    intro r e
    rcases (h1.alloc tmp).2 with ⟨rfl, _⟩ | ⟨g, cap, cur', rfl, _, hgb, _⟩
    · simp [Value.ownBlock] at e
    · obtain rfl : g = r := by simpa [Value.ownBlock] using e
      exact ⟨_, hgb⟩
  have other : ∀ e, e ≠ 51 → ∀ r, x.ownBlock = some r → ∀ cur, (w.alloc tmp).heap[r]? ≠ some (.cells cur e (0, 0)) := by
    intro e he r hr cur hc
    obtain ⟨cur', hcur⟩ := typ r hr
    rw [hcur] at hc
    simp at hc
    exact he hc.2.symm
  have hDa : (w.alloc tmp).heap[D]? = some (.cells #[x, y] 25 (0, 0)) := by rw [Below.heap_alloc _ _ _ hlt]; exact blk
  have hne : x.ownBlock ≠ some D := fun e => other _ (by decide) D e _ hDa
  have hbk : w'.heap[D]? = some (.cells #[x, y] 25 (0, 0)) := by
    rw [hg.block D (by simp; omega) (fun e => hne e.symm)]; exact hDa
  have b1 : Below Bx w w' := ((Below.refl _ _).alloc hBw tmp).grown hg (by simp; omega) (fun k e => (World.ownsRow.lt h1 k e).1)
  have hba : Below w.heap.size w (w.alloc tmp) := (Below.refl _ _).alloc (Nat.le_refl _) _
  have K' : OwnK w' B x' (C ++ [c]) := OwnK.append hl (ownsRow_lower (h1.alloc tmp) hB) (fun i hi => ((h2 i hi).lower hB).later hba) (hq.later hba) (ownsRow_lower h3 hB) hg
  have g2 := grownBy_set w' ⟨D, 0, none⟩ x'
  refine ⟨K'.elsewhere g2 hbk (by decide) (by decide) (by decide), (OwnH.elsewhere ⟨ownsRow_elsewhere (hH.later hba).1 hg (other _ (by decide)), hH.2⟩ g2 hbk (by decide)).lower hB, ?_, hbk, b1⟩
  rw [heap_setCell_same _ _ _ _ _ _ hbk]; rfl

set_option maxRecDepth 100000 in
set_option maxHeartbeats 8000000 in
theorem grown_any (a : Option Addr) (n cap : Nat) (C : List M.Com) (a2 : Option Addr) (n2 cap2 : Nat) (H : List M.Hd) (k : Nat) (ra pa : Option Addr) (rn rc pn pc : Nat) (c : M.Com) (B : Nat) (w : World) (hV : RepoV w a n cap C a2 n2 cap2 H) (hz : M.rchk C H = 0) (hk : k < H.length) (hB : B ≤ w.heap.size) (hq : OwnCo w B (.slice ra rn rc, .slice pa pn pc) c) :
    Calls Tryz.prog 100 #[.agg #[.slice a n cap, .slice a2 n2 cap2], .int .i64 (k : Int), .slice ra rn rc, .slice pa pn pc] w fun e w' => ∃ v, e = .returned v ∧ RepoOwn w' B v (C ++ [c]) (M.setH H k C.length) ∧ Below w.heap.size w w' := by
  obtain ⟨i1, hi1, hy0, hy1, hy2⟩ := info_parts infoCommit
  obtain ⟨p, hp⟩ : ∃ p, p = w.heap.size := ⟨_, rfl⟩
  obtain ⟨W, hW⟩ : ∃ W, W = (w.alloc (.cells #[.slice a n cap, .slice a2 n2 cap2] 25)).alloc (.cells #[.slice none 0 0, .slice none 0 0] 25) := ⟨_, rfl⟩
  have hb : Below w.heap.size w W := by rw [hW]; exact ((Below.refl _ _).alloc (Nat.le_refl _) _).alloc (by simp) _
  have hsz : W.heap.size = p + 2 := by rw [hW, hp]; simp
  have q2 : W.heap[p + 1]? = some (.cells #[.slice none 0 0, .slice none 0 0] 25 (0, 0)) := by
    rw [hW, show p + 1 = (w.alloc (.cells #[.slice a n cap, .slice a2 n2 cap2] 25)).heap.size by rw [hp]; simp]
    exact heap_alloc_new _ _
  have KO : Hid (Calls Tryz.prog 103 #[.agg #[.slice a n cap, .slice a2 n2 cap2]] W fun e w' => ∃ v, e = .returned v ∧ RepoOwn w' W.heap.size v C H ∧ Below W.heap.size W w') := ownRepo_any a n cap C a2 n2 cap2 H W (hV.later hb) hz
  have HQ : Hid (OwnCo W B (.slice ra rn rc, .slice pa pn pc) c) := hq.later hb
  have HQ2 : Hid (W.heap[p + 1]? = some (.cells #[.slice none 0 0, .slice none 0 0] 25 (0, 0))) := q2
  have hC14 : C.length ≤ 14 := (M.dchk_zero (M.rchk_zero hz).1).1
  have HW : Hid (W = (w.alloc (.cells #[.slice a n cap, .slice a2 n2 cap2] 25)).alloc (.cells #[.slice none 0 0, .slice none 0 0] 25)) := hW
  have HP : Aside (p = w.heap.size) := hp
  have HSz : Aside (W.heap.size = p + 2) := hsz
  clear hW hp hV hz hq q2 hsz
  go_enter Tryz.func100, Tryz.ntmps100
  go_wp2_with fail
  rw [← HW.out, ← HP.out]
  refine KO.out.mono ?_
  rintro e w1 ⟨v, rfl, ⟨x, y, rfl, ok, oh⟩, b1⟩
  obtain ⟨xa, xc, rfl, _⟩ := ok.cm
  obtain ⟨g, yc, rfl⟩ : ∃ g yc, y = .slice (some ⟨g, 0, none⟩) H.length yc := by
    rcases oh.1.2 with ⟨e, e2⟩ | ⟨g, cap, _, e, _⟩
    · omega
    · exact ⟨g, cap, e⟩
  obtain ⟨D, hD⟩ : ∃ D, D = w1.heap.size := ⟨_, rfl⟩
  obtain ⟨m, hm⟩ : ∃ m, m = C.length := ⟨_, rfl⟩
  obtain ⟨mh, hmh⟩ : ∃ mh, mh = H.length := ⟨_, rfl⟩
  obtain ⟨W2, hW2⟩ : ∃ W2, W2 = w1.alloc (.cells #[.slice xa m xc, .slice (some ⟨g, 0, none⟩) mh yc] 25) := ⟨_, rfl⟩
  have bW2 : Below w1.heap.size w1 W2 := by rw [hW2]; exact (Below.refl _ _).alloc (Nat.le_refl _) _
  have blk : W2.heap[D]? = some (.cells #[.slice xa m xc, .slice (some ⟨g, 0, none⟩) mh yc] 25 (0, 0)) := by rw [hW2, hD]; exact heap_alloc_new _ _
  have b2 : Below W.heap.size W W2 := b1.trans (bW2.mono b1.size)
  obtain ⟨vals, hl, hrow, hel⟩ := ok.later bW2
  rw [← hm] at hrow
  have oh2 := oh.later bW2
  have k0 : W2.cell? ⟨D, 0, none⟩ = some (.slice xa m xc) := by rw [cell_of_row _ _ _ _ _ _ blk]; rfl
  have hDs : D < W2.heap.size := (Array.getElem?_eq_some_iff.1 blk).1
  have HRA : Hid ((W2.alloc (.cells #[.slice ra rn rc, .slice pa pn pc] 51)).ownsRow W.heap.size 51 2 (.slice xa m xc) m (encP vals)) := hrow.alloc _
  have hWD : W.heap.size ≤ D := by rw [hD]; exact b1.size
  have hBW : B ≤ W.heap.size := Nat.le_trans hB hb.size
  have HPut : Hid (∀ x' w', w'.ownsRow W.heap.size 51 2 x' (m + 1) (encP vals ++ [.slice ra rn rc, .slice pa pn pc]) → (W2.alloc (.cells #[.slice ra rn rc, .slice pa pn pc] 51)).grownBy w' (Value.slice xa m xc).ownBlock → OwnK (w'.setCell ⟨D, 0, none⟩ x') B x' (C ++ [c]) ∧ OwnH (w'.setCell ⟨D, 0, none⟩ x') B (.slice (some ⟨g, 0, none⟩) mh yc) H ∧ (w'.setCell ⟨D, 0, none⟩ x').heap[D]? = some (.cells #[x', .slice (some ⟨g, 0, none⟩) mh yc] 25 (0, 0)) ∧ w'.heap[D]? = some (.cells #[.slice xa m xc, .slice (some ⟨g, 0, none⟩) mh yc] 25 (0, 0)) ∧ Below W.heap.size W2 w') := fun x' w' h3 hg =>
    boxed_grown (q := (.slice ra rn rc, .slice pa pn pc)) hBW b2.size blk (by rw [hmh]; exact oh2) _ hl (by rw [← hm]; exact hrow) hel (HQ.out.later b2) (by rw [← hm]; exact h3) hg
  rw [← hm, ← hmh]
  have hgW : W.heap.size ≤ g := (World.ownsRow.lt oh.1 g rfl).1
  have hkm : k < mh := by rw [hmh]; exact hk
  have HM : Aside (m = C.length) := hm
  have HMh : Aside (mh = H.length) := hmh
  have HW2 : Hid (W2 = w1.alloc (.cells #[.slice xa m xc, .slice (some ⟨g, 0, none⟩) mh yc] 25)) := hW2
  have HD : Aside (D = w1.heap.size) := hD
  have hm14 : m ≤ 14 := by rw [hm]; exact hC14
  have HCN : Hid (∀ j u, [Value.slice ra rn rc, .slice pa pn pc][j]? = some u → (W2.alloc (.cells #[.slice ra rn rc, .slice pa pn pc] 51)).cell? ((⟨w1.heap.size + 1, 0, none⟩ : Addr).add j) = some u) := by
    unfold Hid
    rw [show w1.heap.size + 1 = W2.heap.size by rw [hW2]; simp]
    exact cell_pair_new _ _ _ _
  have HBs : Hid (W.heap.size ≤ (W2.alloc (.cells #[.slice ra rn rc, .slice pa pn pc] 51)).heap.size) := by have := b2.size; unfold Hid; simp; omega
  clear hW2 hD ok oh oh2 blk hl hrow hel hm hmh b1 bW2 KO
  go_wp2_with (at_builtin; refine wpList_append_own _ rfl _ _ 22 rfl W.heap.size 51 i1 (.agg #[.slice none 0 0, .slice none 0 0]) 2 48 Tryz.underlying22 hi1 hy0 hy1 hy2 rfl (by decide) _ m (encP vals) rfl (by rw [← HW2.out]; exact HRA.out) ⟨w1.heap.size + 1, 0, none⟩ 1 1 [.slice ra rn rc, .slice pa pn pc] rfl rfl (by rw [← HW2.out]; exact HCN.out) (by simp [Value.oneCell']) (by simp only [maxLen]; omega) (by omega) (by rw [← HW2.out]; exact HBs.out) ?_)
  rw [← HW2.out, ← HD.out]
  intro v' w3 h6 h7 _
  obtain ⟨g', cap', rfl⟩ := ownsRow_succ h6
  obtain ⟨P1, P2, P3, P4, P5⟩ := HPut.out _ w3 h6 h7
  have k3 : w3.cell? ⟨D, 0, none⟩ = some (.slice xa m xc) := by rw [cell_of_row _ _ _ _ _ _ P4]; rfl
  have f3 : w3.frozen? ⟨D, 0, none⟩ = false := frozen_of_row _ _ _ _ _ P4
  obtain ⟨W4, hW4⟩ : ∃ W4, W4 = w3.setCell ⟨D, 0, none⟩ (.slice (some ⟨g', 0, none⟩) (m + 1) cap') := ⟨_, rfl⟩
  rw [← hW4] at P1 P2 P3
  rw [HMh.out] at P2 P3
  obtain ⟨Q1, Q2, Q3, Q4, Q5, Q6⟩ := boxed_moved (k := k) ((m : Nat) : Int) P3 P1 P2 hk
  rw [← HMh.out] at Q1 Q3 P3
  obtain ⟨W5, hW5⟩ : ∃ W5, W5 = W4.setCell ⟨g, k * 2 + 1, none⟩ (.int .i64 (m : Int)) := ⟨_, rfl⟩
  rw [← hW5] at Q1 Q2 Q3
  have b4 : Below W.heap.size W W4 := by rw [hW4]; exact (b2.trans P5).setCell (p := ⟨D, 0, none⟩) hWD _
  have b5 : Below W.heap.size W W5 := by rw [hW5]; exact b4.setCell (p := ⟨g, k * 2 + 1, none⟩) hgW _
  have d0 : W4.cell? ⟨D, 0, none⟩ = some (.slice (some ⟨g', 0, none⟩) (m + 1) cap') := by rw [cell_of_row _ _ _ _ _ _ P3]; rfl
  have d1 : W4.cell? ⟨D, 1, none⟩ = some (.slice (some ⟨g, 0, none⟩) mh yc) := by rw [cell_of_row _ _ _ _ _ _ P3]; rfl
  have e0 : W5.cell? ⟨D, 0, none⟩ = some (.slice (some ⟨g', 0, none⟩) (m + 1) cap') := by rw [cell_of_row _ _ _ _ _ _ Q1]; rfl
  have e1 : W5.cell? ⟨D, 1, none⟩ = some (.slice (some ⟨g, 0, none⟩) mh yc) := by rw [cell_of_row _ _ _ _ _ _ Q1]; rfl
  have r2 : W5.heap[p + 1]? = some (.cells #[.slice none 0 0, .slice none 0 0] 25 (0, 0)) := (b5.block (p + 1) (by have := HSz.out; omega)).trans HQ2.out
  have hbw : Below w.heap.size w W5 := hb.trans (b5.mono hb.size)
  have HRO : Aside (RepoOwn ((W5.setCell ⟨p + 1, 0, none⟩ (.slice (some ⟨g', 0, none⟩) (m + 1) cap')).setCell ⟨p + 1, 1, none⟩ (.slice (some ⟨g, 0, none⟩) mh yc)) B (.agg #[.slice (some ⟨g', 0, none⟩) (m + 1) cap', .slice (some ⟨g, 0, none⟩) mh yc]) (C ++ [c]) (M.setH H k C.length)) := by rw [← HM.out]; exact repoOwn_set r2 Q2 Q3
  obtain ⟨g1, g2, g3⟩ := res_set r2 (.slice (some ⟨g', 0, none⟩) (m + 1) cap') (.slice (some ⟨g, 0, none⟩) mh yc)
  obtain ⟨X, hX⟩ : ∃ X, X = (W5.setCell ⟨p + 1, 0, none⟩ (.slice (some ⟨g', 0, none⟩) (m + 1) cap')).setCell ⟨p + 1, 1, none⟩ (.slice (some ⟨g, 0, none⟩) mh yc) := ⟨_, rfl⟩
  rw [← hX] at g1 HRO
  have bX : Below w.heap.size w X := by rw [hX]; exact (hbw.setCell (p := ⟨p + 1, 0, none⟩) (by show _ ≤ p + 1; have := HP.out; omega) _).setCell (p := ⟨p + 1, 1, none⟩) (by show _ ≤ p + 1; have := HP.out; omega) _
  have HX9 : Hid (X = (W5.setCell ⟨p + 1, 0, none⟩ (.slice (some ⟨g', 0, none⟩) (m + 1) cap')).setCell ⟨p + 1, 1, none⟩ (.slice (some ⟨g, 0, none⟩) mh yc)) := hX
  have HW4 : Hid (W4 = w3.setCell ⟨D, 0, none⟩ (.slice (some ⟨g', 0, none⟩) (m + 1) cap')) := hW4
  have HW5 : Hid (W5 = W4.setCell ⟨g, k * 2 + 1, none⟩ (.int .i64 (m : Int))) := hW5
  have HX0 : Aside (X.cell? ⟨p + 1, 0, none⟩ = some (.slice (some ⟨g', 0, none⟩) (m + 1) cap')) := by unfold Aside; rw [cell_of_row _ _ _ _ _ _ g1]; rfl
  have HX1 : Aside (X.cell? ⟨p + 1, 1, none⟩ = some (.slice (some ⟨g, 0, none⟩) mh yc)) := by unfold Aside; rw [cell_of_row _ _ _ _ _ _ g1]; rfl
  have HQ4 : Hid (W4.frozen? ⟨g, k * 2 + 1, none⟩ = false) := Q4
  have HQ6 : Hid (W4.cell? ⟨g, k * 2 + 1, none⟩ = some (.int .i64 (H.getD k M.hd0).2)) := Q6
  have HE : Hid (W5.cell? ⟨D, 0, none⟩ = some (.slice (some ⟨g', 0, none⟩) (m + 1) cap') ∧ W5.cell? ⟨D, 1, none⟩ = some (.slice (some ⟨g, 0, none⟩) mh yc)) := ⟨e0, e1⟩
  have HR2 : Hid (W5.heap[p + 1]? = some (.cells #[.slice none 0 0, .slice none 0 0] 25 (0, 0))) := r2
  have HDD : Hid (W4.cell? ⟨D, 0, none⟩ = some (.slice (some ⟨g', 0, none⟩) (m + 1) cap') ∧ W4.cell? ⟨D, 1, none⟩ = some (.slice (some ⟨g, 0, none⟩) mh yc)) := ⟨d0, d1⟩
  have hmw : IntKind.i64.wrap (((m + 1 : Nat) : Int) - 1) = (m : Int) := by rw [IntKind.wrap_i64]; omega
  have hki : (k : Int) < (mh : Int) := by omega
  have d0' := HDD.out.1
  have d1' := HDD.out.2
  have q4' := HQ4.out
  have q6' := HQ6.out
  rw [hW4] at d0' d1' q4' q6'
  have e0' := HE.out.1
  have e1' := HE.out.2
  rw [hW5, hW4] at e0' e1'
  have x0' : W5.cell? ⟨p + 1, 0, none⟩ = some (.slice none 0 0) := by rw [cell_of_row _ _ _ _ _ _ r2]; rfl
  have x1' : W5.cell? ⟨p + 1, 1, none⟩ = some (.slice none 0 0) := by rw [cell_of_row _ _ _ _ _ _ r2]; rfl
  have f0' : W5.frozen? ⟨p + 1, 0, none⟩ = false := frozen_of_row _ _ _ _ _ r2
  have f1' : W5.frozen? ⟨p + 1, 1, none⟩ = false := frozen_of_row _ _ _ _ _ r2
  rw [hW5, hW4] at x0' x1' f0' f1'
  clear P1 P2 P3 P4 P5 Q1 Q2 Q3 Q4 Q5 Q6 h6 h7 hW4 hW5 hX g1 g2 g3 d0 d1 e0 e1 r2 HPut HRA HCN HBs k0 b2 b4 b5
  go_wp2_with fail
  rw [← HW4.out, ← HW5.out, ← HX9.out]
  have y0 := HX0.out
  have y1 := HX1.out
  refine bodyPost_ret (v := .agg #[.slice (some ⟨g', 0, none⟩) (m + 1) cap', .slice (some ⟨g, 0, none⟩) mh yc]) (by simp [results, Tryz.results100, go_sem, y0, y1]) rfl ?_
  exact ⟨_, rfl, HRO.out, bX⟩
end Go.Proofs.YtcgpgflnihjpiafGreat
