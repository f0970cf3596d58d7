/- For every repo and every two names, the law WorkMerged returns true and leaves its arguments as they were: what was merged is in. No condition. -/
import Derived.Test.YtcgpgflnihjpiafGreatBWorkMerged08
import Derived.Test.YtcgpgflnihjpiafGreatBWorkMerged07
import Derived.Test.YtcgpgflnihjpiafGreatBWorkMerged04
import Derived.Test.YtcgpgflnihjpiafGreatRows
import Derived.Test.YtcgpgflnihjpiafGreatBWorkMerged01
import Derived.ProofKit
import Derived.OpenShut
import Derived.ChangeOld
import Derived.Deep.SlicePairs
import Derived.Deep.RegionHeld
import Derived.Lib.SmallJoins
import Derived.ChangeMaps5
import Derived.Test.YtcgpgflnihjpiafGreatBWorkMerged02
import Derived.Test.YtcgpgflnihjpiafGreatBWorkMerged06
namespace Go.Proofs.YtcgpgflnihjpiafGreat
open Go.RowKit

theorem ShopAt.v {w : World} {lo g h : Nat} (S : ShopAt w lo g h) : RepoV w (some ⟨g, 0, none⟩) 6 6 crossL (some ⟨h, 0, none⟩) 2 2 shopH := by
  refine ⟨S.cm, ?_, by omega, S.hs, by omega, fun h => by cases h⟩
  intro b off e i hi x m c hor hx
  cases e
  obtain ⟨f, b1, b2, b3, b4, h1, _⟩ := S.cr
  subst hx
  rw [cell_of_row _ _ _ _ _ _ h1, cell_of_row _ _ _ _ _ _ h1] at hor
  match i, hi with
  | 0, _ => simpa [crossC, eq_comm] using hor
  | 1, _ => simp [crossC] at hor
  | 2, _ => simpa [crossC, eq_comm] using hor
  | 3, _ => simpa [crossC, eq_comm] using hor
  | 4, _ => simpa [crossC, eq_comm] using hor
  | 5, _ => simpa [crossC, eq_comm] using hor

set_option maxRecDepth 100000 in
set_option maxHeartbeats 8000000 in
theorem wbegun_any (w : World) : Calls Tryz.prog 10 #[] w fun e w' => e = .returned (.bool true) ∧ Below w.heap.size w w' := by
  go_enter Tryz.func10, Tryz.ntmps10
  go_wp2_with fail
  refine (shop_any _).mono ?_
  rintro e a0 ⟨g0, h0, rfl, S0, b0⟩
  obtain ⟨A0, hA0⟩ : ∃ A0, A0 = a0.alloc (.cells #[.int .i64 7, .int .i64 0, .int .i64 4] 69) := ⟨_, rfl⟩
  have bA0 : Below a0.heap.size a0 A0 := by rw [hA0]; exact (Below.refl _ _).alloc (Nat.le_refl _) _
  have rc0 : Rc A0 (some ⟨a0.heap.size, 0, none⟩) 1 chA := ⟨rfl, Or.inr ⟨a0.heap.size, 0, rfl, by rw [hA0]; simp, fun i hi => by obtain rfl : i = 0 := (by omega); rw [hA0]; simp [go_sem, chA]⟩⟩
  have HA0 : Hid (A0 = a0.alloc (.cells #[.int .i64 7, .int .i64 0, .int .i64 4] 69)) := hA0
  have K0 := wput_any (some ⟨g0, 0, none⟩) 6 6 crossL (some ⟨h0, 0, none⟩) 2 2 shopH sSide (some ⟨a0.heap.size, 0, none⟩) 1 1 chA A0 (S0.v.later bA0) rc0 (by omega)
  rw [wb1, wb1c, wb1h] at K0
  have KK0 : Hid (Calls Tryz.prog 16 #[.agg #[.slice (some ⟨g0, 0, none⟩) 6 6, .slice (some ⟨h0, 0, none⟩) 2 2], .string ⟨#[115, 105, 100, 101]⟩, .slice (some ⟨a0.heap.size, 0, none⟩) 1 1] A0 fun e w' => ∃ v, e = .returned (.tuple #[v, .int .i64 0]) ∧ RepoOwn w' A0.heap.size v aC aH ∧ Below A0.heap.size A0 w') := K0
  have c0 := dbelow2 (Below.refl w.heap.size w) (dbelow2 b0 bA0)
  clear K0 S0 b0 rc0 hA0 bA0
  go_wp2_with fail
  rw [← HA0.out]
  refine KK0.out.mono ?_
  rintro e v0 ⟨r0, rfl, o0, bb⟩
  obtain ⟨xaA, xcA, yaA, ycA, rfl, V0⟩ := o0.v
  rw [show (aC : List M.Com).length = 7 from by decide +kernel, show (aH : List M.Hd).length = 2 from by decide +kernel] at V0 ⊢
  obtain ⟨X1, hX1⟩ : ∃ X1, X1 = v0.alloc (.cells #[.slice xaA 7 xcA, .slice yaA 2 ycA] 25) := ⟨_, rfl⟩
  obtain ⟨pA, hpA⟩ : ∃ pA, pA = v0.heap.size := ⟨_, rfl⟩
  have bX1 : Below v0.heap.size v0 X1 := by rw [hX1]; exact (Below.refl _ _).alloc (Nat.le_refl _) _
  have HX1 : Hid (X1 = v0.alloc (.cells #[.slice xaA 7 xcA, .slice yaA 2 ycA] 25)) := hX1
  have HP1 : Aside (pA = v0.heap.size) := hpA
  have HBA_X1 : Hid (KBox X1 pA xaA 7 xcA aC yaA 2 ycA aH) := by rw [hX1, hpA]; exact KBox.new V0
  have cx1 := dbelow2 c0 (dbelow2 bb bX1)
  clear c0 bb KK0 o0 V0 bX1 hX1 hpA
  go_wp2_with fail
  rw [← HX1.out, ← HP1.out]
  refine (shop_any _).mono ?_
  rintro e a1 ⟨g1, h1, rfl, S1, b1⟩
  obtain ⟨A1, hA1⟩ : ∃ A1, A1 = a1.alloc (.cells #[.int .i64 7, .int .i64 1, .int .i64 4] 69) := ⟨_, rfl⟩
  have bA1 : Below a1.heap.size a1 A1 := by rw [hA1]; exact (Below.refl _ _).alloc (Nat.le_refl _) _
  have rc1 : Rc A1 (some ⟨a1.heap.size, 0, none⟩) 1 chB := ⟨rfl, Or.inr ⟨a1.heap.size, 0, rfl, by rw [hA1]; simp, fun i hi => by obtain rfl : i = 0 := (by omega); rw [hA1]; simp [go_sem, chB]⟩⟩
  have HA1 : Hid (A1 = a1.alloc (.cells #[.int .i64 7, .int .i64 1, .int .i64 4] 69)) := hA1
  have K1 := wput_any (some ⟨g1, 0, none⟩) 6 6 crossL (some ⟨h1, 0, none⟩) 2 2 shopH sSide (some ⟨a1.heap.size, 0, none⟩) 1 1 chB A1 (S1.v.later bA1) rc1 (by omega)
  rw [wb2, wb2c, wb2h] at K1
  have KK1 : Hid (Calls Tryz.prog 16 #[.agg #[.slice (some ⟨g1, 0, none⟩) 6 6, .slice (some ⟨h1, 0, none⟩) 2 2], .string ⟨#[115, 105, 100, 101]⟩, .slice (some ⟨a1.heap.size, 0, none⟩) 1 1] A1 fun e w' => ∃ v, e = .returned (.tuple #[v, .int .i64 7]) ∧ RepoOwn w' A1.heap.size v [] [] ∧ Below A1.heap.size A1 w') := K1
  have c1 := dbelow2 cx1 (dbelow2 b1 bA1)
  have HBA_A1 : Hid (KBox A1 pA xaA 7 xcA aC yaA 2 ycA aH) := HBA_X1.out.later (dbelow2 b1 bA1)
  clear HBA_X1
  clear K1 S1 b1 rc1 hA1 bA1 cx1
  go_wp2_with fail
  rw [← HA1.out]
  refine KK1.out.mono ?_
  rintro e v1 ⟨r1, rfl, o1, bb⟩
  obtain ⟨xaB, xcB, yaB, ycB, rfl, V1⟩ := o1.v
  rw [show ([] : List M.Com).length = 0 from by decide +kernel, show ([] : List M.Hd).length = 0 from by decide +kernel] at V1 ⊢
  obtain ⟨X2, hX2⟩ : ∃ X2, X2 = v1.alloc (.cells #[.slice xaB 0 xcB, .slice yaB 0 ycB] 25) := ⟨_, rfl⟩
  obtain ⟨pB, hpB⟩ : ∃ pB, pB = v1.heap.size := ⟨_, rfl⟩
  have bX2 : Below v1.heap.size v1 X2 := by rw [hX2]; exact (Below.refl _ _).alloc (Nat.le_refl _) _
  have HX2 : Hid (X2 = v1.alloc (.cells #[.slice xaB 0 xcB, .slice yaB 0 ycB] 25)) := hX2
  have HP2 : Aside (pB = v1.heap.size) := hpB
  have HBB_X2 : Hid (KBox X2 pB xaB 0 xcB [] yaB 0 ycB []) := by rw [hX2, hpB]; exact KBox.new V1
  have cx2 := dbelow2 c1 (dbelow2 bb bX2)
  have HBA_X2 : Hid (KBox X2 pA xaA 7 xcA aC yaA 2 ycA aH) := HBA_A1.out.later (dbelow2 bb bX2)
  clear HBA_A1
  clear c1 bb KK1 o1 V1 bX2 hX2 hpB
  go_wp2_with fail
  rw [← HX2.out, ← HP2.out]
  refine (shop_any _).mono ?_
  rintro e a2 ⟨g2, h2, rfl, S2, b2⟩
  have K2 := wbranch_any (some ⟨g2, 0, none⟩) 6 6 crossL (some ⟨h2, 0, none⟩) 2 2 shopH sNew sSide a2 S2.v (by decide)
  rw [wb3, wb3c, wb3h] at K2
  have KK2 : Hid (Calls Tryz.prog 28 #[.agg #[.slice (some ⟨g2, 0, none⟩) 6 6, .slice (some ⟨h2, 0, none⟩) 2 2], .string ⟨#[110, 101, 119]⟩, .string ⟨#[115, 105, 100, 101]⟩] a2 fun e w' => ∃ v, e = .returned (.tuple #[v, .int .i64 0]) ∧ RepoOwn w' a2.heap.size v crossL bH ∧ Below a2.heap.size a2 w') := K2
  have c2 := dbelow2 cx2 b2
  have HBA_a2 : Hid (KBox a2 pA xaA 7 xcA aC yaA 2 ycA aH) := HBA_X2.out.later b2
  clear HBA_X2
  have HBB_a2 : Hid (KBox a2 pB xaB 0 xcB [] yaB 0 ycB []) := HBB_X2.out.later b2
  clear HBB_X2
  clear K2 S2 b2 cx2
  go_wp2_with fail
  refine KK2.out.mono ?_
  rintro e v2 ⟨r2, rfl, o2, bb⟩
  obtain ⟨xaC, xcC, yaC, ycC, rfl, V2⟩ := o2.v
  rw [show (crossL : List M.Com).length = 6 from by decide +kernel, show (bH : List M.Hd).length = 3 from by decide +kernel] at V2 ⊢
  obtain ⟨X3, hX3⟩ : ∃ X3, X3 = v2.alloc (.cells #[.slice xaC 6 xcC, .slice yaC 3 ycC] 25) := ⟨_, rfl⟩
  obtain ⟨pC, hpC⟩ : ∃ pC, pC = v2.heap.size := ⟨_, rfl⟩
  have bX3 : Below v2.heap.size v2 X3 := by rw [hX3]; exact (Below.refl _ _).alloc (Nat.le_refl _) _
  have HX3 : Hid (X3 = v2.alloc (.cells #[.slice xaC 6 xcC, .slice yaC 3 ycC] 25)) := hX3
  have HP3 : Aside (pC = v2.heap.size) := hpC
  have HBC_X3 : Hid (KBox X3 pC xaC 6 xcC crossL yaC 3 ycC bH) := by rw [hX3, hpC]; exact KBox.new V2
  have cx3 := dbelow2 c2 (dbelow2 bb bX3)
  have HBA_X3 : Hid (KBox X3 pA xaA 7 xcA aC yaA 2 ycA aH) := HBA_a2.out.later (dbelow2 bb bX3)
  clear HBA_a2
  have HBB_X3 : Hid (KBox X3 pB xaB 0 xcB [] yaB 0 ycB []) := HBB_a2.out.later (dbelow2 bb bX3)
  clear HBB_a2
  clear c2 bb KK2 o2 V2 bX3 hX3 hpC
  go_wp2_with fail
  rw [← HX3.out, ← HP3.out]
  refine (shop_any _).mono ?_
  rintro e a3 ⟨g3, h3, rfl, S3, b3⟩
  have K3 := wdrop_any (some ⟨g3, 0, none⟩) 6 6 crossL (some ⟨h3, 0, none⟩) 2 2 shopH sMain a3 S3.v
  rw [wb4, wb4c, wb4h] at K3
  have KK3 : Hid (Calls Tryz.prog 29 #[.agg #[.slice (some ⟨g3, 0, none⟩) 6 6, .slice (some ⟨h3, 0, none⟩) 2 2], .string ⟨#[109, 97, 105, 110]⟩] a3 fun e w' => ∃ v, e = .returned (.tuple #[v, .int .i64 0]) ∧ RepoOwn w' a3.heap.size v crossL cH ∧ Below a3.heap.size a3 w') := K3
  have c3 := dbelow2 cx3 b3
  have HBA_a3 : Hid (KBox a3 pA xaA 7 xcA aC yaA 2 ycA aH) := HBA_X3.out.later b3
  clear HBA_X3
  have HBB_a3 : Hid (KBox a3 pB xaB 0 xcB [] yaB 0 ycB []) := HBB_X3.out.later b3
  clear HBB_X3
  have HBC_a3 : Hid (KBox a3 pC xaC 6 xcC crossL yaC 3 ycC bH) := HBC_X3.out.later b3
  clear HBC_X3
  clear K3 S3 b3 cx3
  go_wp2_with fail
  refine KK3.out.mono ?_
  rintro e v3 ⟨r3, rfl, o3, bb⟩
  obtain ⟨xaD, xcD, yaD, ycD, rfl, V3⟩ := o3.v
  rw [show (crossL : List M.Com).length = 6 from by decide +kernel, show (cH : List M.Hd).length = 1 from by decide +kernel] at V3 ⊢
  obtain ⟨X4, hX4⟩ : ∃ X4, X4 = v3.alloc (.cells #[.slice xaD 6 xcD, .slice yaD 1 ycD] 25) := ⟨_, rfl⟩
  obtain ⟨pD, hpD⟩ : ∃ pD, pD = v3.heap.size := ⟨_, rfl⟩
  have bX4 : Below v3.heap.size v3 X4 := by rw [hX4]; exact (Below.refl _ _).alloc (Nat.le_refl _) _
  have HX4 : Hid (X4 = v3.alloc (.cells #[.slice xaD 6 xcD, .slice yaD 1 ycD] 25)) := hX4
  have HP4 : Aside (pD = v3.heap.size) := hpD
  have HBD_X4 : Hid (KBox X4 pD xaD 6 xcD crossL yaD 1 ycD cH) := by rw [hX4, hpD]; exact KBox.new V3
  have cx4 := dbelow2 c3 (dbelow2 bb bX4)
  have HBA_X4 : Hid (KBox X4 pA xaA 7 xcA aC yaA 2 ycA aH) := HBA_a3.out.later (dbelow2 bb bX4)
  clear HBA_a3
  have HBB_X4 : Hid (KBox X4 pB xaB 0 xcB [] yaB 0 ycB []) := HBB_a3.out.later (dbelow2 bb bX4)
  clear HBB_a3
  have HBC_X4 : Hid (KBox X4 pC xaC 6 xcC crossL yaC 3 ycC bH) := HBC_a3.out.later (dbelow2 bb bX4)
  clear HBC_a3
  clear c3 bb KK3 o3 V3 bX4 hX4 hpD
  have K4 := wmerge_any xaA 7 xcA aC yaA 2 ycA aH sMain sSide X4 HBA_X4.out.v
  rw [wb5, wb5c, wb5h, wb5k] at K4
  have KK4 : Hid (Calls Tryz.prog 14 #[.agg #[.slice xaA 7 xcA, .slice yaA 2 ycA], .string ⟨#[109, 97, 105, 110]⟩, .string ⟨#[115, 105, 100, 101]⟩] X4 fun e w' => ∃ v kb kn kc, e = .returned (.tuple #[v, .slice kb kn kc, .int .i64 7]) ∧ RepoOwn w' X4.heap.size v [] [] ∧ Ri w' kb kn [7] ∧ kn ≤ kc ∧ kc ≤ maxLen ∧ Below X4.heap.size X4 w') := K4
  have c4 := cx4
  clear K4 cx4
  have ya0 := HBA_X4.out.c0
  have ya1 := HBA_X4.out.c1
  rw [HX4.out] at ya0 ya1
  go_wp2_with fail
  rw [← HX4.out, ← HP4.out]
  refine KK4.out.mono ?_
  rintro e v4 ⟨r4, kb4, kn4, kc4, rfl, o4, ri4, kl4, km4, bb⟩
  obtain ⟨xaE, xcE, yaE, ycE, rfl, V4⟩ := o4.v
  rw [show ([] : List M.Com).length = 0 from by decide +kernel, show ([] : List M.Hd).length = 0 from by decide +kernel] at V4 ⊢
  obtain rfl : 1 = kn4 := ri4.1
  obtain ⟨X5, hX5⟩ : ∃ X5, X5 = v4.alloc (.cells #[.slice xaE 0 xcE, .slice yaE 0 ycE] 25) := ⟨_, rfl⟩
  obtain ⟨pE, hpE⟩ : ∃ pE, pE = v4.heap.size := ⟨_, rfl⟩
  have bX5 : Below v4.heap.size v4 X5 := by rw [hX5]; exact (Below.refl _ _).alloc (Nat.le_refl _) _
  have HX5 : Hid (X5 = v4.alloc (.cells #[.slice xaE 0 xcE, .slice yaE 0 ycE] 25)) := hX5
  have HP5 : Aside (pE = v4.heap.size) := hpE
  have HBE_X5 : Hid (KBox X5 pE xaE 0 xcE [] yaE 0 ycE []) := by rw [hX5, hpE]; exact KBox.new V4
  have cx5 := dbelow2 c4 (dbelow2 bb bX5)
  have HBA_X5 : Hid (KBox X5 pA xaA 7 xcA aC yaA 2 ycA aH) := HBA_X4.out.later (dbelow2 bb bX5)
  clear HBA_X4
  have HBB_X5 : Hid (KBox X5 pB xaB 0 xcB [] yaB 0 ycB []) := HBB_X4.out.later (dbelow2 bb bX5)
  clear HBB_X4
  have HBC_X5 : Hid (KBox X5 pC xaC 6 xcC crossL yaC 3 ycC bH) := HBC_X4.out.later (dbelow2 bb bX5)
  clear HBC_X4
  have HBD_X5 : Hid (KBox X5 pD xaD 6 xcD crossL yaD 1 ycD cH) := HBD_X4.out.later (dbelow2 bb bX5)
  clear HBD_X4
  have HKS_X5 : Hid (Ri X5 kb4 1 [7]) := ri4.below bX5 (Nat.le_refl _)
  clear c4 bb KK4 o4 V4 bX5 hX5 hpE ri4 ya0 ya1
  go_wp2_with fail
  rw [← HX5.out, ← HP5.out]
  refine (shop_any _).mono ?_
  rintro e a5 ⟨g5, h5, rfl, S5, b5⟩
  have K5 := wmerge_any (some ⟨g5, 0, none⟩) 6 6 crossL (some ⟨h5, 0, none⟩) 2 2 shopH sMain sSide a5 S5.v
  rw [wb6, wb6c, wb6h, wb6k] at K5
  have KK5 : Hid (Calls Tryz.prog 14 #[.agg #[.slice (some ⟨g5, 0, none⟩) 6 6, .slice (some ⟨h5, 0, none⟩) 2 2], .string ⟨#[109, 97, 105, 110]⟩, .string ⟨#[115, 105, 100, 101]⟩] a5 fun e w' => ∃ v kb kn kc, e = .returned (.tuple #[v, .slice kb kn kc, .int .i64 9]) ∧ RepoOwn w' a5.heap.size v [] [] ∧ Ri w' kb kn [] ∧ kn ≤ kc ∧ kc ≤ maxLen ∧ Below a5.heap.size a5 w') := K5
  have c5 := dbelow2 cx5 b5
  have HBA_a5 : Hid (KBox a5 pA xaA 7 xcA aC yaA 2 ycA aH) := HBA_X5.out.later b5
  clear HBA_X5
  have HBB_a5 : Hid (KBox a5 pB xaB 0 xcB [] yaB 0 ycB []) := HBB_X5.out.later b5
  clear HBB_X5
  have HBC_a5 : Hid (KBox a5 pC xaC 6 xcC crossL yaC 3 ycC bH) := HBC_X5.out.later b5
  clear HBC_X5
  have HBD_a5 : Hid (KBox a5 pD xaD 6 xcD crossL yaD 1 ycD cH) := HBD_X5.out.later b5
  clear HBD_X5
  have HBE_a5 : Hid (KBox a5 pE xaE 0 xcE [] yaE 0 ycE []) := HBE_X5.out.later b5
  clear HBE_X5
  have HKS_a5 : Hid (Ri a5 kb4 1 [7]) := HKS_X5.out.below b5 (Nat.le_refl _)
  clear HKS_X5
  clear K5 S5 b5 cx5
  go_wp2_with fail
  refine KK5.out.mono ?_
  rintro e v5 ⟨r5, kb5, kn5, kc5, rfl, o5, ri5, kl5, km5, bb⟩
  obtain ⟨xaF, xcF, yaF, ycF, rfl, V5⟩ := o5.v
  rw [show ([] : List M.Com).length = 0 from by decide +kernel, show ([] : List M.Hd).length = 0 from by decide +kernel] at V5 ⊢
  obtain ⟨X6, hX6⟩ : ∃ X6, X6 = v5.alloc (.cells #[.slice xaF 0 xcF, .slice yaF 0 ycF] 25) := ⟨_, rfl⟩
  obtain ⟨pF, hpF⟩ : ∃ pF, pF = v5.heap.size := ⟨_, rfl⟩
  have bX6 : Below v5.heap.size v5 X6 := by rw [hX6]; exact (Below.refl _ _).alloc (Nat.le_refl _) _
  have HX6 : Hid (X6 = v5.alloc (.cells #[.slice xaF 0 xcF, .slice yaF 0 ycF] 25)) := hX6
  have HP6 : Aside (pF = v5.heap.size) := hpF
  have HBF_X6 : Hid (KBox X6 pF xaF 0 xcF [] yaF 0 ycF []) := by rw [hX6, hpF]; exact KBox.new V5
  have cx6 := dbelow2 c5 (dbelow2 bb bX6)
  have HBA_X6 : Hid (KBox X6 pA xaA 7 xcA aC yaA 2 ycA aH) := HBA_a5.out.later (dbelow2 bb bX6)
  clear HBA_a5
  have HBB_X6 : Hid (KBox X6 pB xaB 0 xcB [] yaB 0 ycB []) := HBB_a5.out.later (dbelow2 bb bX6)
  clear HBB_a5
  have HBC_X6 : Hid (KBox X6 pC xaC 6 xcC crossL yaC 3 ycC bH) := HBC_a5.out.later (dbelow2 bb bX6)
  clear HBC_a5
  have HBD_X6 : Hid (KBox X6 pD xaD 6 xcD crossL yaD 1 ycD cH) := HBD_a5.out.later (dbelow2 bb bX6)
  clear HBD_a5
  have HBE_X6 : Hid (KBox X6 pE xaE 0 xcE [] yaE 0 ycE []) := HBE_a5.out.later (dbelow2 bb bX6)
  clear HBE_a5
  have HKS_X6 : Hid (Ri X6 kb4 1 [7]) := HKS_a5.out.below (dbelow2 bb bX6) (Nat.le_refl _)
  clear HKS_a5
  clear c5 bb KK5 o5 V5 bX6 hX6 hpF ri5
  go_wp2_with fail
  rw [← HX6.out, ← HP6.out]
  refine (shop_any _).mono ?_
  rintro e a6 ⟨g6, h6, rfl, S6, b6⟩
  have K6 := wmerge_any (some ⟨g6, 0, none⟩) 6 6 crossL (some ⟨h6, 0, none⟩) 2 2 shopH sSide sMain a6 S6.v
  rw [wb7, wb7c, wb7h, wb7k] at K6
  have KK6 : Hid (Calls Tryz.prog 14 #[.agg #[.slice (some ⟨g6, 0, none⟩) 6 6, .slice (some ⟨h6, 0, none⟩) 2 2], .string ⟨#[115, 105, 100, 101]⟩, .string ⟨#[109, 97, 105, 110]⟩] a6 fun e w' => ∃ v kb kn kc, e = .returned (.tuple #[v, .slice kb kn kc, .int .i64 0]) ∧ RepoOwn w' a6.heap.size v crossL xH ∧ Ri w' kb kn [] ∧ kn ≤ kc ∧ kc ≤ maxLen ∧ Below a6.heap.size a6 w') := K6
  have c6 := dbelow2 cx6 b6
  have HBA_a6 : Hid (KBox a6 pA xaA 7 xcA aC yaA 2 ycA aH) := HBA_X6.out.later b6
  clear HBA_X6
  have HBB_a6 : Hid (KBox a6 pB xaB 0 xcB [] yaB 0 ycB []) := HBB_X6.out.later b6
  clear HBB_X6
  have HBC_a6 : Hid (KBox a6 pC xaC 6 xcC crossL yaC 3 ycC bH) := HBC_X6.out.later b6
  clear HBC_X6
  have HBD_a6 : Hid (KBox a6 pD xaD 6 xcD crossL yaD 1 ycD cH) := HBD_X6.out.later b6
  clear HBD_X6
  have HBE_a6 : Hid (KBox a6 pE xaE 0 xcE [] yaE 0 ycE []) := HBE_X6.out.later b6
  clear HBE_X6
  have HBF_a6 : Hid (KBox a6 pF xaF 0 xcF [] yaF 0 ycF []) := HBF_X6.out.later b6
  clear HBF_X6
  have HKS_a6 : Hid (Ri a6 kb4 1 [7]) := HKS_X6.out.below b6 (Nat.le_refl _)
  clear HKS_X6
  clear K6 S6 b6 cx6
  go_wp2_with fail
  refine KK6.out.mono ?_
  rintro e v6 ⟨r6, kb6, kn6, kc6, rfl, o6, ri6, kl6, km6, bb⟩
  obtain ⟨xaG, xcG, yaG, ycG, rfl, V6⟩ := o6.v
  rw [show (crossL : List M.Com).length = 6 from by decide +kernel, show (xH : List M.Hd).length = 2 from by decide +kernel] at V6 ⊢
  obtain ⟨X7, hX7⟩ : ∃ X7, X7 = v6.alloc (.cells #[.slice xaG 6 xcG, .slice yaG 2 ycG] 25) := ⟨_, rfl⟩
  obtain ⟨pG, hpG⟩ : ∃ pG, pG = v6.heap.size := ⟨_, rfl⟩
  have bX7 : Below v6.heap.size v6 X7 := by rw [hX7]; exact (Below.refl _ _).alloc (Nat.le_refl _) _
  have HX7 : Hid (X7 = v6.alloc (.cells #[.slice xaG 6 xcG, .slice yaG 2 ycG] 25)) := hX7
  have HP7 : Aside (pG = v6.heap.size) := hpG
  have HBG_X7 : Hid (KBox X7 pG xaG 6 xcG crossL yaG 2 ycG xH) := by rw [hX7, hpG]; exact KBox.new V6
  have cx7 := dbelow2 c6 (dbelow2 bb bX7)
  have HBA_X7 : Hid (KBox X7 pA xaA 7 xcA aC yaA 2 ycA aH) := HBA_a6.out.later (dbelow2 bb bX7)
  clear HBA_a6
  have HBB_X7 : Hid (KBox X7 pB xaB 0 xcB [] yaB 0 ycB []) := HBB_a6.out.later (dbelow2 bb bX7)
  clear HBB_a6
  have HBC_X7 : Hid (KBox X7 pC xaC 6 xcC crossL yaC 3 ycC bH) := HBC_a6.out.later (dbelow2 bb bX7)
  clear HBC_a6
  have HBD_X7 : Hid (KBox X7 pD xaD 6 xcD crossL yaD 1 ycD cH) := HBD_a6.out.later (dbelow2 bb bX7)
  clear HBD_a6
  have HBE_X7 : Hid (KBox X7 pE xaE 0 xcE [] yaE 0 ycE []) := HBE_a6.out.later (dbelow2 bb bX7)
  clear HBE_a6
  have HBF_X7 : Hid (KBox X7 pF xaF 0 xcF [] yaF 0 ycF []) := HBF_a6.out.later (dbelow2 bb bX7)
  clear HBF_a6
  have HKS_X7 : Hid (Ri X7 kb4 1 [7]) := HKS_a6.out.below (dbelow2 bb bX7) (Nat.le_refl _)
  clear HKS_a6
  clear c6 bb KK6 o6 V6 bX7 hX7 hpG ri6
  go_wp2_with fail
  rw [← HX7.out, ← HP7.out]
  refine (shop_any _).mono ?_
  rintro e a7 ⟨g7, h7, rfl, S7, b7⟩
  have K7 := wput_any (some ⟨g7, 0, none⟩) 6 6 crossL (some ⟨h7, 0, none⟩) 2 2 shopH sSide none 0 0 [] a7 S7.v ⟨rfl, Or.inl rfl⟩ (by omega)
  rw [wb8, wb8c, wb8h] at K7
  have KK7 : Hid (Calls Tryz.prog 16 #[.agg #[.slice (some ⟨g7, 0, none⟩) 6 6, .slice (some ⟨h7, 0, none⟩) 2 2], .string ⟨#[115, 105, 100, 101]⟩, .slice none 0 0] a7 fun e w' => ∃ v, e = .returned (.tuple #[v, .int .i64 9]) ∧ RepoOwn w' a7.heap.size v [] [] ∧ Below a7.heap.size a7 w') := K7
  have c7 := dbelow2 cx7 b7
  have HBA_a7 : Hid (KBox a7 pA xaA 7 xcA aC yaA 2 ycA aH) := HBA_X7.out.later b7
  clear HBA_X7
  have HBB_a7 : Hid (KBox a7 pB xaB 0 xcB [] yaB 0 ycB []) := HBB_X7.out.later b7
  clear HBB_X7
  have HBC_a7 : Hid (KBox a7 pC xaC 6 xcC crossL yaC 3 ycC bH) := HBC_X7.out.later b7
  clear HBC_X7
  have HBD_a7 : Hid (KBox a7 pD xaD 6 xcD crossL yaD 1 ycD cH) := HBD_X7.out.later b7
  clear HBD_X7
  have HBE_a7 : Hid (KBox a7 pE xaE 0 xcE [] yaE 0 ycE []) := HBE_X7.out.later b7
  clear HBE_X7
  have HBF_a7 : Hid (KBox a7 pF xaF 0 xcF [] yaF 0 ycF []) := HBF_X7.out.later b7
  clear HBF_X7
  have HBG_a7 : Hid (KBox a7 pG xaG 6 xcG crossL yaG 2 ycG xH) := HBG_X7.out.later b7
  clear HBG_X7
  have HKS_a7 : Hid (Ri a7 kb4 1 [7]) := HKS_X7.out.below b7 (Nat.le_refl _)
  clear HKS_X7
  clear K7 S7 b7 cx7
  go_wp2_with fail
  refine KK7.out.mono ?_
  rintro e v7 ⟨r7, rfl, o7, bb⟩
  obtain ⟨xaI, xcI, yaI, ycI, rfl, V7⟩ := o7.v
  rw [show ([] : List M.Com).length = 0 from by decide +kernel, show ([] : List M.Hd).length = 0 from by decide +kernel] at V7 ⊢
  obtain ⟨X8, hX8⟩ : ∃ X8, X8 = v7.alloc (.cells #[.slice xaI 0 xcI, .slice yaI 0 ycI] 25) := ⟨_, rfl⟩
  obtain ⟨pI, hpI⟩ : ∃ pI, pI = v7.heap.size := ⟨_, rfl⟩
  have bX8 : Below v7.heap.size v7 X8 := by rw [hX8]; exact (Below.refl _ _).alloc (Nat.le_refl _) _
  have HX8 : Hid (X8 = v7.alloc (.cells #[.slice xaI 0 xcI, .slice yaI 0 ycI] 25)) := hX8
  have HP8 : Aside (pI = v7.heap.size) := hpI
  have HBI_X8 : Hid (KBox X8 pI xaI 0 xcI [] yaI 0 ycI []) := by rw [hX8, hpI]; exact KBox.new V7
  have cx8 := dbelow2 c7 (dbelow2 bb bX8)
  have HBA_X8 : Hid (KBox X8 pA xaA 7 xcA aC yaA 2 ycA aH) := HBA_a7.out.later (dbelow2 bb bX8)
  clear HBA_a7
  have HBB_X8 : Hid (KBox X8 pB xaB 0 xcB [] yaB 0 ycB []) := HBB_a7.out.later (dbelow2 bb bX8)
  clear HBB_a7
  have HBC_X8 : Hid (KBox X8 pC xaC 6 xcC crossL yaC 3 ycC bH) := HBC_a7.out.later (dbelow2 bb bX8)
  clear HBC_a7
  have HBD_X8 : Hid (KBox X8 pD xaD 6 xcD crossL yaD 1 ycD cH) := HBD_a7.out.later (dbelow2 bb bX8)
  clear HBD_a7
  have HBE_X8 : Hid (KBox X8 pE xaE 0 xcE [] yaE 0 ycE []) := HBE_a7.out.later (dbelow2 bb bX8)
  clear HBE_a7
  have HBF_X8 : Hid (KBox X8 pF xaF 0 xcF [] yaF 0 ycF []) := HBF_a7.out.later (dbelow2 bb bX8)
  clear HBF_a7
  have HBG_X8 : Hid (KBox X8 pG xaG 6 xcG crossL yaG 2 ycG xH) := HBG_a7.out.later (dbelow2 bb bX8)
  clear HBG_a7
  have HKS_X8 : Hid (Ri X8 kb4 1 [7]) := HKS_a7.out.below (dbelow2 bb bX8) (Nat.le_refl _)
  clear HKS_a7
  clear c7 bb KK7 o7 V7 bX8 hX8 hpI
  obtain ⟨hab, hao, eyA, _, hA6⟩ := HBA_X8.out.head 1 (by omega)
  rw [show ((aH).getD 1 M.hd0).2 = 6 from by decide +kernel] at hA6
  obtain ⟨cab, cao, x1, n1, c1, x2, m2, c2, exA, hA7, hA8, hRi, hm2⟩ := HBA_X8.out.par 6 (by omega)
  rw [wb1p] at hRi
  obtain rfl : 1 = m2 := hRi.1
  subst eyA exA
  have qa0 := HBA_X8.out.c0
  have qa1 := HBA_X8.out.c1
  have HRi : Hid (Ri X8 x2 1 [1]) := hRi
  clear hRi
  obtain ⟨Y1, hY1⟩ : ∃ Y1, Y1 = X8.alloc (.cells #[.int .i64 1] 3) := ⟨_, rfl⟩
  have bY1 : Below X8.heap.size X8 Y1 := by rw [hY1]; exact (Below.refl _ _).alloc (Nat.le_refl _) _
  obtain ⟨q1, hq1⟩ : ∃ q1, q1 = X8.heap.size := ⟨_, rfl⟩
  have r1 : Ri Y1 (some ⟨q1, 0, none⟩) 1 [1] := ⟨rfl, Or.inr ⟨q1, 0, rfl, by rw [hY1, hq1]; simp, fun i hi => by obtain rfl : i = 0 := (by omega); rw [hY1, hq1]; simp [go_sem]⟩⟩
  have KS1 : Hid (Calls Tryz.prog 31 #[.slice x2 1 c2, .slice (some ⟨q1, 0, none⟩) 1 1] Y1 fun e w' => e = .returned (.bool true) ∧ ∃ m, w' = Y1.drewN m) := isame_yes x2 (some ⟨q1, 0, none⟩) 1 c2 1 [1] Y1 (HRi.out.below bY1 (Nat.le_refl _)) r1 (by omega)
  have HY1 : Hid (Y1 = X8.alloc (.cells #[.int .i64 1] 3)) := hY1
  have HQ1 : Aside (q1 = v7.heap.size + 1) := by unfold Aside; rw [hq1, HX8.out]; simp
  rw [HX8.out] at qa0 qa1 hA6 hA7 hA8
  clear hY1 hq1 r1
  go_wp2_with fail
  rw [← HX8.out, ← HY1.out, ← HQ1.out, ← HP8.out]
  refine KS1.out.mono ?_
  rintro e Y2 ⟨rfl, m1, hY2⟩
  have bY2 : Below X8.heap.size X8 Y2 := by rw [hY2]; exact below_drewN bY1 m1
  have cy := dbelow2 cx8 bY2
  have HC2 := HBC_X8.out.later bY2
  have HD2 := HBD_X8.out.later bY2
  have HE2 : Hid (KBox Y2 pE xaE 0 xcE [] yaE 0 ycE []) := HBE_X8.out.later bY2
  have HG2 : Hid (KBox Y2 pG xaG 6 xcG crossL yaG 2 ycG xH) := HBG_X8.out.later bY2
  have HK2 : Hid (Ri Y2 kb4 1 [7]) := HKS_X8.out.below bY2 (Nat.le_refl _)
  obtain ⟨hcb, hco, eyC, hC1, _⟩ := HC2.head 1 (by omega)
  rw [show ((bH).getD 1 M.hd0).1 = (⟨#[110, 101, 119]⟩ : ByteArray) from by decide +kernel] at hC1
  subst eyC
  have qc1 := HC2.c1
  have qd1 := HD2.c1
  obtain ⟨Y3, hY3⟩ : ∃ Y3, Y3 = Y2.alloc (.cells #[.int .i64 7] 3) := ⟨_, rfl⟩
  have bY3 : Below Y2.heap.size Y2 Y3 := by rw [hY3]; exact (Below.refl _ _).alloc (Nat.le_refl _) _
  have r3 : Ri Y3 (some ⟨Y2.heap.size, 0, none⟩) 1 [7] := ⟨rfl, Or.inr ⟨Y2.heap.size, 0, rfl, by rw [hY3]; simp, fun i hi => by obtain rfl : i = 0 := (by omega); rw [hY3]; simp [go_sem]⟩⟩
  have KS3 : Hid (Calls Tryz.prog 31 #[.slice kb4 1 kc4, .slice (some ⟨Y2.heap.size, 0, none⟩) 1 1] Y3 fun e w' => e = .returned (.bool true) ∧ ∃ m, w' = Y3.drewN m) := isame_yes kb4 (some ⟨Y2.heap.size, 0, none⟩) 1 kc4 1 [7] Y3 (HK2.out.below bY3 (Nat.le_refl _)) r3 (by omega)
  have HY3 : Hid (Y3 = Y2.alloc (.cells #[.int .i64 7] 3)) := hY3
  clear hY3 r3 hY2 bY2 bY1 HC2 HD2 qa0 qa1 hA6 hA7 hA8 KS1 HRi cx8
  go_wp2_with fail
  rw [← HY3.out]
  refine KS3.out.mono ?_
  rintro e Y4 ⟨rfl, m3, hY4⟩
  have bY4 : Below Y2.heap.size Y2 Y4 := by rw [hY4]; exact below_drewN bY3 m3
  have cz := dbelow2 cy bY4
  have HE4 := HE2.out.later bY4
  have HG4 := HG2.out.later bY4
  have qe0 := HE4.c0
  obtain ⟨hgb, hgo, eyG, _, hG1⟩ := HG4.head 1 (by omega)
  rw [show ((xH).getD 1 M.hd0).2 = 3 from by decide +kernel] at hG1
  subst eyG
  have qg0 := HG4.c0
  have qg1 := HG4.c1
  clear hY4 bY4 bY3 HE4 HG4 KS3 cy
  go_wp2
  go_ret
  exact ⟨rfl, cz⟩
end Go.Proofs.YtcgpgflnihjpiafGreat

/- Plain facts on repos that have changed, with no program in sight. -/
namespace Go.Proofs.YtcgpgflnihjpiafGreat.M
open Go.RowKit

theorem alike_iff (s t : ByteArray) : alike s t = true ↔ s = t := by
  unfold alike
  rw [beq_iff_eq, ByteArray.toList_eq, ByteArray.toList_eq]
  constructor
  · intro h
    have : s.data = t.data := Array.ext' h
    cases s; cases t; simp_all
  · rintro rfl; rfl
theorem less_irr (s : ByteArray) : less s s = false := bless_irr _

/-! ### names -/
def nms (H : List Hd) : List ByteArray := H.map Prod.fst
theorem riseF_nms : ∀ (H H' : List Hd) (s : ByteArray), nms H = nms H' → riseF s H = riseF s H'
  | [], [], _, _ => rfl
  | [], _ :: _, _, h => by simp [nms] at h
  | _ :: _, [], _, h => by simp [nms] at h
  | x :: t, y :: u, s, h => by
    simp only [nms, List.map_cons, List.cons.injEq] at h
    simp only [riseF]
    rw [h.1, riseF_nms t u _ h.2]
theorem rise_nms : ∀ (H H' : List Hd), nms H = nms H' → rise H = rise H'
  | [], [], _ => rfl
  | [], _ :: _, h => by simp [nms] at h
  | _ :: _, [], h => by simp [nms] at h
  | x :: t, y :: u, h => by
    simp only [nms, List.map_cons, List.cons.injEq] at h
    simp only [rise]
    rw [h.1, riseF_nms t u _ h.2]
theorem named_nms (H H' : List Hd) (h : nms H = nms H') : named H = named H' := by
  have e : ∀ H : List Hd, named H = (nms H).all nam := fun H => by unfold named nms; rw [List.all_map]; rfl
  rw [e, e, h]
theorem riseF_all : ∀ (H : List Hd) (s : ByteArray), riseF s H = true → (∀ h ∈ H, less s h.1 = true) ∧ H.Pairwise (fun a b => less a.1 b.1 = true)
  | [], _, _ => ⟨fun _ h => by simp at h, List.Pairwise.nil⟩
  | x :: t, s, h => by
    simp only [riseF, Bool.and_eq_true] at h
    obtain ⟨h1, h2⟩ := riseF_all t x.1 h.2
    refine ⟨fun y hy => ?_, List.pairwise_cons.2 ⟨h1, h2⟩⟩
    rcases List.mem_cons.1 hy with rfl | hy
    · exact h.1
    · exact less_trans h.1 (h1 y hy)
theorem rise_all {H : List Hd} (h : rise H = true) : H.Pairwise (fun a b => less a.1 b.1 = true) := by
  cases H with
  | nil => exact List.Pairwise.nil
  | cons x t =>
    obtain ⟨h1, h2⟩ := riseF_all t x.1 h
    exact List.pairwise_cons.2 ⟨h1, h2⟩
theorem riseF_of : ∀ (H : List Hd) (s : ByteArray), (∀ h ∈ H, less s h.1 = true) → H.Pairwise (fun a b => less a.1 b.1 = true) → riseF s H = true
  | [], _, _, _ => rfl
  | x :: t, s, h1, h2 => by
    simp only [riseF, Bool.and_eq_true]
    exact ⟨h1 x (by simp), riseF_of t x.1 (List.pairwise_cons.1 h2).1 (List.pairwise_cons.1 h2).2⟩
theorem rise_of {H : List Hd} (h : H.Pairwise (fun a b => less a.1 b.1 = true)) : rise H = true := by
  cases H with
  | nil => rfl
  | cons x t => exact riseF_of t x.1 (List.pairwise_cons.1 h).1 (List.pairwise_cons.1 h).2
/-- Heads that rise have each name once. -/
theorem rise_once {H : List Hd} (h : H.Pairwise (fun a b => less a.1 b.1 = true)) : ∀ a ∈ H, ∀ b ∈ H, a.1 = b.1 → a = b := by
  induction H with
  | nil => intro a ha; simp at ha
  | cons x t ih =>
    obtain ⟨h1, h2⟩ := List.pairwise_cons.1 h
    intro a ha b hb e
    rcases List.mem_cons.1 ha with rfl | ha' <;> rcases List.mem_cons.1 hb with rfl | hb'
    · rfl
    · have := h1 b hb'; rw [e, less_irr] at this; simp at this
    · have := h1 a ha'; rw [e, less_irr] at this; simp at this
    · exact ih h2 a ha' b hb' e

theorem rchk_of {C : List Com} {H : List Hd} (h1 : dchk C = 0) (h2 : H.length ≤ 4) (h3 : named H = true) (h4 : inside C.length H = true) (h5 : rise H = true) : rchk C H = 0 := by
  unfold rchk
  rw [if_neg (by rw [h1]; simp), if_neg (by omega), if_neg (by rw [h3]; simp), if_neg (by rw [h4]; simp), if_neg (by rw [h5]; simp)]

theorem hd_mem {C : List Com} {H : List Hd} (hr : rchk C H = 0) {t : ByteArray} {y : Int} (hm : (t, y) ∈ H) : hchk C H t = 0 ∧ hat C H t = y := by
  have hp : 0 ≤ plc H t := (idxF_neg _ H 0).2 (List.any_eq_true.2 ⟨(t, y), hm, (alike_iff t t).2 rfl⟩)
  have hc : hchk C H t = 0 := by unfold hchk; rw [if_neg (by rw [hr]; simp), if_neg (by omega)]
  have hl := plc_lt H t
  have ha := idxF_at (fun h : Hd => alike h.1 t) H 0 hd0 hp
  rw [Nat.sub_zero] at ha
  have hk : (plc H t).toNat < H.length := by omega
  have hmem : H.getD (plc H t).toNat hd0 ∈ H := by simp [List.getD, hk]
  have e1 : (H.getD (plc H t).toNat hd0).1 = t := (alike_iff _ _).1 ha
  have e2 := rise_once (rise_all (rchk_zero hr).2.2.2.2) _ hmem _ hm e1
  refine ⟨hc, ?_⟩
  unfold hat
  rw [if_neg (by rw [hc]; simp), e2]
theorem hd_none {C : List Com} {H : List Hd} (hr : rchk C H = 0) {t : ByteArray} (hn : ∀ y, (t, y) ∉ H) : hchk C H t = 5 ∧ hat C H t = 0 := by
  have hp : plc H t < 0 := by
    by_cases h : 0 ≤ plc H t
    · obtain ⟨x, hx, hx2⟩ := List.any_eq_true.1 ((idxF_neg _ H 0).1 h)
      have e : x.1 = t := (alike_iff _ _).1 hx2
      exact absurd (show (t, x.2) ∈ H by rw [← e]; exact hx) (hn x.2)
    · omega
  have hc : hchk C H t = 5 := by unfold hchk; rw [if_neg (by rw [hr]; simp), if_pos hp]
  refine ⟨hc, ?_⟩
  unfold hat
  rw [if_pos (by rw [hc]; simp)]
theorem hd_in {C : List Com} {H : List Hd} {t : ByteArray} (h : hchk C H t = 0) : (t, hat C H t) ∈ H := by
  obtain ⟨hr, hp⟩ := hchk_zero h
  by_cases hn : ∀ y, (t, y) ∉ H
  · have := (hd_none hr hn).1; omega
  · simp only [Classical.not_forall, Classical.not_not] at hn
    obtain ⟨y, hy⟩ := hn
    rw [(hd_mem hr hy).2]; exact hy
theorem hd_same {C C' : List Com} {H H' : List Hd} (hr : rchk C H = 0) (hr' : rchk C' H' = 0) {t : ByteArray} (h : ∀ y, (t, y) ∈ H ↔ (t, y) ∈ H') : hchk C H t = hchk C' H' t ∧ hat C H t = hat C' H' t := by
  by_cases hn : ∀ y, (t, y) ∉ H
  · obtain ⟨a1, a2⟩ := hd_none hr hn
    obtain ⟨b1, b2⟩ := hd_none hr' (fun y hy => hn y ((h y).2 hy))
    exact ⟨a1.trans b1.symm, a2.trans b2.symm⟩
  · simp only [Classical.not_forall, Classical.not_not] at hn
    obtain ⟨y, hy⟩ := hn
    obtain ⟨a1, a2⟩ := hd_mem hr hy
    obtain ⟨b1, b2⟩ := hd_mem hr' ((h y).1 hy)
    exact ⟨a1.trans b1.symm, a2.trans b2.symm⟩

/-! ### a head that is moved -/
def setH (H : List Hd) (k : Nat) (x : Int) : List Hd := H.set k ((H.getD k hd0).1, x)
theorem nms_set (H : List Hd) (k : Nat) (x : Int) : nms (setH H k x) = nms H := by
  unfold nms setH
  refine List.ext_getElem (by simp) fun i h1 h2 => ?_
  simp only [List.getElem_map, List.getElem_set]
  split
  · rename_i e; subst e
    have : k < H.length := by simpa using h2
    simp [List.getD, this]
  · rfl
theorem set_mem {H : List Hd} {k : Nat} {x : Int} (hk : k < H.length) (h : H.Pairwise (fun a b => less a.1 b.1 = true)) (t : ByteArray) (y : Int) : (t, y) ∈ setH H k x ↔ (t = (H.getD k hd0).1 ∧ y = x) ∨ (t ≠ (H.getD k hd0).1 ∧ (t, y) ∈ H) := by
  have hm : H.getD k hd0 ∈ H := by simp [List.getD, hk]
  have ek : H.getD k hd0 = H[k] := by simp [List.getD, hk]
  unfold setH
  constructor
  · intro hmem
    obtain ⟨i, hi, e⟩ := List.getElem_of_mem hmem
    rw [List.getElem_set] at e
    split at e
    · left; exact ⟨(congrArg Prod.fst e).symm, (congrArg Prod.snd e).symm⟩
    · rename_i hne
      right
      have hi2 : i < H.length := by simpa using hi
      refine ⟨fun he => ?_, by rw [← e]; exact List.getElem_mem hi2⟩
      rcases Nat.lt_or_gt_of_ne hne with hlt | hlt
      · have := List.pairwise_iff_getElem.1 h k i hk hi2 hlt
        rw [e, ← ek, ← he, less_irr] at this; simp at this
      · have := List.pairwise_iff_getElem.1 h i k hi2 hk hlt
        rw [e, ← ek, ← he, less_irr] at this; simp at this
  · rintro (⟨rfl, rfl⟩ | ⟨h1, h2⟩)
    · exact List.mem_iff_getElem.2 ⟨k, by simpa using hk, by simp⟩
    · obtain ⟨i, hi, e⟩ := List.getElem_of_mem h2
      refine List.mem_iff_getElem.2 ⟨i, by simpa using hi, ?_⟩
      rw [List.getElem_set, if_neg, e]
      intro hki
      subst hki
      rw [← ek] at e
      exact h1 (by rw [e])
theorem inside_mono {n n' : Nat} (hn : n ≤ n') {H : List Hd} (h : inside n H = true) : inside n' H = true := by
  refine (inside_iff n' H).2 fun k hk => ?_
  have := (inside_iff n H).1 h k hk
  omega
theorem inside_mem {n : Nat} {H : List Hd} : inside n H = true ↔ ∀ h ∈ H, 0 ≤ h.2 ∧ h.2 < (n : Int) := by
  unfold inside; rw [List.all_eq_true]; simp
theorem named_mem {H : List Hd} : named H = true ↔ ∀ h ∈ H, nam h.1 = true := by
  unfold named; rw [List.all_eq_true]
theorem rchk_set {C C' : List Com} {H : List Hd} (hr : rchk C H = 0) (hd : dchk C' = 0) (hl : C.length ≤ C'.length) {k : Nat} {x : Int} (h0 : 0 ≤ x) (h1 : x < (C'.length : Int)) : rchk C' (setH H k x) = 0 := by
  obtain ⟨a1, a2, a3, a4, a5⟩ := rchk_zero hr
  have e := nms_set H k x
  refine rchk_of hd (by unfold setH; simpa using a2) (by rw [named_nms _ _ e]; exact a3) ?_ (by rw [rise_nms _ _ e]; exact a5)
  refine inside_mem.2 fun h hm => ?_
  have a4 := inside_mem.1 (inside_mono hl a4)
  unfold setH at hm
  rcases List.mem_or_eq_of_mem_set hm with hm | rfl
  · exact a4 h hm
  · exact ⟨h0, h1⟩
/-- The head that is moved, and the others. -/
theorem moved {C C' : List Com} {H : List Hd} {s : ByteArray} {x : Int} (hs : hchk C H s = 0) (hr' : rchk C' (setH H (plc H s).toNat x) = 0) :
    (hchk C' (setH H (plc H s).toNat x) s = 0 ∧ hat C' (setH H (plc H s).toNat x) s = x) ∧ ∀ t, t ≠ s → hchk C' (setH H (plc H s).toNat x) t = hchk C H t ∧ hat C' (setH H (plc H s).toNat x) t = hat C H t := by
  obtain ⟨hr, hp⟩ := hchk_zero hs
  have hl := plc_lt H s
  have hk : (plc H s).toNat < H.length := by omega
  have ha := idxF_at (fun h : Hd => alike h.1 s) H 0 hd0 hp
  rw [Nat.sub_zero] at ha
  have e1 : (H.getD (plc H s).toNat hd0).1 = s := (alike_iff _ _).1 ha
  have S := fun t y => set_mem (x := x) hk (rise_all (rchk_zero hr).2.2.2.2) t y
  rw [e1] at S
  refine ⟨hd_mem hr' ((S s x).2 (Or.inl ⟨rfl, rfl⟩)), fun t ht => hd_same hr' hr fun y => ?_⟩
  rw [S t y]
  simp [ht]

/-! ### a commit more -/
theorem dchkF_snoc (c : Com) (hc : chk c.1 = 0) : ∀ (L : List Com) (n : Nat), dchkF n L = 0 → pr (n + L.length) c.2 = true → dchkF n (L ++ [c]) = 0
  | [], n, _, hp => by
    simp only [List.nil_append, dchkF]
    rw [if_neg (by rw [hc]; simp), if_pos (by simpa using hp)]
  | d :: t, n, h, hp => by
    rw [List.cons_append, dchkF]
    rw [dchkF] at h
    split at h
    · rename_i h1; exact absurd h h1
    · rename_i h1
      split at h
      · rename_i h2
        rw [if_neg h1, if_pos h2]
        exact dchkF_snoc c hc t (n + 1) h (by rw [show n + 1 + t.length = n + (d :: t).length by simp; omega]; exact hp)
      · omega
theorem dchk_snoc {L : List Com} {c : Com} (h : dchk L = 0) (hl : L.length < 14) (hc : chk c.1 = 0) (hp : pr L.length c.2 = true) : dchk (L ++ [c]) = 0 := by
  rw [dchk_few _ (by simp; omega)]
  rw [dchk_few _ (by omega)] at h
  exact dchkF_snoc c hc L 0 h (by simpa using hp)
theorem pr_one {n : Nat} {x : Int} (h0 : 0 ≤ x) (h1 : x < (n : Int)) : pr n [x] = true := by
  unfold pr ris ris
  simp; omega
theorem pr_two {n : Nat} {x y : Int} (h0 : 0 ≤ x) (h1 : x < y) (h2 : y < (n : Int)) : pr n [x, y] = true := by
  unfold pr ris ris ris
  simp; omega
theorem mrows_ok {b l m : List (Int × Int)} (h : mergeE b l m = 0) : chk (mrows b l m) = 0 := by
  unfold mergeE at h
  split at h
  · rename_i h1; exact absurd h h1
  · rename_i h1
    split at h
    · rename_i h2; exact absurd h h2
    · rename_i h2
      split at h
      · rename_i h3; exact absurd h h3
      · rename_i h3
        split at h
        · omega
        · rename_i h4
          refine (chk_zero _).2 ⟨by omega, ofTab_ok _ fun i _ => ?_⟩
          have r1 := find_range (key := (i : Int)) ((chk_zero b).1 (by simpa using h1)).2
          have r2 := find_range (key := (i : Int)) ((chk_zero l).1 (by simpa using h2)).2
          have r3 := find_range (key := (i : Int)) ((chk_zero m).1 (by simpa using h3)).2
          unfold mtab mval
          split
          · exact r2
          · split
            · exact r3
            · exact r2
theorem patchE_parts {l : List (Int × Int)} {d : List Chg} (h : patchE l d = 0) : chk l = 0 ∧ fine d = true ∧ clashF l d = false ∧ (ofTab (tab (fun k => find k l) d)).length ≤ 40 := by
  unfold patchE at h
  split at h
  · rename_i h1; exact absurd h h1
  · rename_i h1
    split at h
    · omega
    · rename_i h2
      split at h
      · omega
      · rename_i h3
        split at h
        · omega
        · rename_i h4
          exact ⟨by simpa using h1, by simpa using h2, by simpa using h3, by omega⟩
theorem patchV_ok {l : List (Int × Int)} {d : List Chg} (h : patchE l d = 0) : chk (patchV l d) = 0 := by
  obtain ⟨h1, h2, h3, h4⟩ := patchE_parts h
  unfold patchV
  rw [if_pos h]
  refine (chk_zero _).2 ⟨h4, ofTab_ok _ fun i hi => ?_⟩
  have F := (fine_iff d).1 h2
  rcases tab_cases (fun k => find k l) d F.2 (i : Int) with ⟨c, hc, _, e⟩ | ⟨_, e⟩
  · rw [e]; have := F.1 c hc; omega
  · rw [e]; exact find_range ((chk_zero l).1 h1).2

/-! ### heads that are sorted in, and heads that are taken out -/
theorem insH_rise {x : Hd} {H : List Hd} (h : H.Pairwise (fun a b => less a.1 b.1 = true)) (hn : ∀ y ∈ H, y.1 ≠ x.1) : (insH x H).Pairwise (fun a b => less a.1 b.1 = true) := by
  induction H with
  | nil => simp [insH]
  | cons y t ih =>
    obtain ⟨h1, h2⟩ := List.pairwise_cons.1 h
    unfold insH
    split
    · rename_i hl
      refine List.pairwise_cons.2 ⟨fun z hz => ?_, h⟩
      rcases List.mem_cons.1 hz with rfl | hz
      · exact hl
      · exact less_trans hl (h1 z hz)
    · rename_i hl
      refine List.pairwise_cons.2 ⟨fun z hz => ?_, ih h2 (fun z hz => hn z (by simp [hz]))⟩
      rcases (insH_mem x t z).1 hz with hzx | hz
      · rw [hzx]
        have hl : less x.1 y.1 = false := by simpa using hl
        have := leq_not x.1 y.1
        cases hyx : less y.1 x.1 with
        | true => rfl
        | false =>
          rw [hyx] at this
          have e2 : (Op.bytesLess x.1.toList y.1.toList) = false := hl
          rw [e2] at this
          simp only [Bool.false_or, Bool.not_false] at this
          exact absurd ((alike_iff x.1 y.1).1 this).symm (hn y (by simp))
      · exact h1 z hz
end Go.Proofs.YtcgpgflnihjpiafGreat.M

/- Plain facts on what Put, Branch, Drop and Merge make. -/
namespace Go.Proofs.YtcgpgflnihjpiafGreat.M
open Go.RowKit

theorem snoc_lt {α : Type} {L : List α} {c d : α} {i : Nat} (h : i < L.length) : (L ++ [c]).getD i d = L.getD i d := by
  simp [List.getD, List.getElem?_append_left h]
theorem snoc_eq {α : Type} {L : List α} {c d : α} : (L ++ [c]).getD L.length d = c := by simp [List.getD]

/-! ### Put -/
theorem put_parts {C : List Com} {H : List Hd} {s : ByteArray} {d : List Chg} (h : wpE C H s d = 0) :
    hchk C H s = 0 ∧ fine d = true ∧ d.length ≠ 0 ∧ C.length < 14 ∧ patchE (C.getD (hat C H s).toNat ([], [])).1 d = 0 ∧ wpC C H s d = C ++ [(patchV (C.getD (hat C H s).toNat ([], [])).1 d, [hat C H s])] ∧ wpH C H s d = setH H (plc H s).toNat C.length := by
  have e1 : wpC C H s d = C ++ [(patchV (C.getD (hat C H s).toNat ([], [])).1 d, [hat C H s])] := by unfold wpC; rw [if_pos h]
  have e2 : wpH C H s d = setH H (plc H s).toNat C.length := by unfold wpH; rw [if_pos h]; rfl
  unfold wpE at h
  split at h
  · rename_i h1; exact absurd h h1
  · rename_i h1
    split at h
    · omega
    · rename_i h2
      split at h
      · omega
      · rename_i h3
        split at h
        · omega
        · rename_i h4
          exact ⟨by simpa using h1, by simpa using h2, h3, by omega, h, e1, e2⟩
theorem put_right {C : List Com} {H : List Hd} {s : ByteArray} {d : List Chg} (h : wpE C H s d = 0) : rchk (wpC C H s d) (wpH C H s d) = 0 := by
  obtain ⟨h1, h2, h3, h4, h5, e1, e2⟩ := put_parts h
  obtain ⟨hr, hp⟩ := hchk_zero h1
  have hi := hat_in h1
  rw [e1, e2]
  have hd := dchk_snoc (c := (patchV (C.getD (hat C H s).toNat ([], [])).1 d, [hat C H s])) (rchk_zero hr).1 h4 (patchV_ok h5) (pr_one hi.1 hi.2)
  exact rchk_set hr hd (by simp) (by omega) (by simp; omega)
theorem put_heads {C : List Com} {H : List Hd} {s : ByteArray} {d : List Chg} (h : wpE C H s d = 0) :
    (hchk (wpC C H s d) (wpH C H s d) s = 0 ∧ hat (wpC C H s d) (wpH C H s d) s = C.length) ∧ ∀ t, t ≠ s → hchk (wpC C H s d) (wpH C H s d) t = hchk C H t ∧ hat (wpC C H s d) (wpH C H s d) t = hat C H t := by
  have hr := put_right h
  obtain ⟨h1, _, _, _, _, _, e2⟩ := put_parts h
  rw [e2] at hr ⊢
  exact moved h1 hr

/-! ### Merge -/
theorem join_parts {C : List Com} {H : List Hd} {s t : ByteArray} (h : joinE C H s t = 0) : hchk C H s = 0 ∧ hchk C H t = 0 ∧ (above C (hat C H s).toNat).getD (hat C H t).toNat false = false ∧
    (((above C (hat C H t).toNat).getD (hat C H s).toNat false = true ∧ joinC C H s t = C ∧ joinH C H s t = setH H (plc H s).toNat (hat C H t)) ∨
     ((above C (hat C H t).toNat).getD (hat C H s).toNat false = false ∧ C.length < 14 ∧ mergeE (baseR C (hat C H s).toNat (hat C H t).toNat) (C.getD (hat C H s).toNat ([], [])).1 (C.getD (hat C H t).toNat ([], [])).1 = 0 ∧
      joinC C H s t = C ++ [(mergeV (baseR C (hat C H s).toNat (hat C H t).toNat) (C.getD (hat C H s).toNat ([], [])).1 (C.getD (hat C H t).toNat ([], [])).1, [min (hat C H s) (hat C H t), max (hat C H s) (hat C H t)])] ∧ joinH C H s t = setH H (plc H s).toNat C.length)) := by
  have h0 := h
  unfold joinE at h
  split at h
  · rename_i h1; exact absurd h h1
  · rename_i h1
    obtain ⟨a1, a2⟩ := openE_two (Decidable.not_not.1 h1)
    refine ⟨a1, a2, ?_⟩
    have eC : joinC C H s t = if (above C (hat C H t).toNat).getD (hat C H s).toNat false = true then C else C ++ [(mergeV (baseR C (hat C H s).toNat (hat C H t).toNat) (C.getD (hat C H s).toNat ([], [])).1 (C.getD (hat C H t).toNat ([], [])).1, [min (hat C H s) (hat C H t), max (hat C H s) (hat C H t)])] := by
      unfold joinC; rw [if_neg (fun hn => hn h0)]
    have eH : joinH C H s t = if (above C (hat C H t).toNat).getD (hat C H s).toNat false = true then mv H s (hat C H t) else mv H s C.length := by
      unfold joinH; rw [if_neg (fun hn => hn h0)]
    rw [eC, eH]
    unfold joinAt at h
    split at h
    · omega
    · rename_i h2
      refine ⟨by simpa using h2, ?_⟩
      split at h
      · rename_i h3
        left
        rw [if_pos h3, if_pos h3]
        exact ⟨h3, rfl, rfl⟩
      · rename_i h3
        right
        split at h
        · omega
        · rename_i h4
          split at h
          · rename_i h5; exact absurd h h5
          · rename_i h5
            rw [if_neg h3, if_neg h3]
            exact ⟨by simpa using h3, by omega, Decidable.not_not.1 h5, rfl, rfl⟩
theorem join_ne {C : List Com} {H : List Hd} {s t : ByteArray} (h : joinE C H s t = 0) : (hat C H s).toNat ≠ (hat C H t).toNat ∧ s ≠ t := by
  obtain ⟨h1, h2, h3, _⟩ := join_parts h
  have hi := hat_in h1
  have R := (dchk_zero (rchk_zero (hchk_zero h1).1).1).2
  have key : (hat C H s).toNat ≠ (hat C H t).toNat := fun e => by
    rw [← e] at h3
    have := (above_iff R (n := (hat C H s).toNat) (by omega) (hat C H s).toNat).2 .self
    rw [h3] at this; simp at this
  exact ⟨key, fun e => key (by rw [e])⟩
theorem join_right {C : List Com} {H : List Hd} {s t : ByteArray} (h : joinE C H s t = 0) : rchk (joinC C H s t) (joinH C H s t) = 0 := by
  obtain ⟨h1, h2, h3, hor⟩ := join_parts h
  have hne := (join_ne h).1
  obtain ⟨hr, hp⟩ := hchk_zero h1
  have i1 := hat_in h1
  have i2 := hat_in h2
  rcases hor with ⟨_, e1, e2⟩ | ⟨_, h4, h5, e1, e2⟩
  · rw [e1, e2]
    exact rchk_set hr (rchk_zero hr).1 (Nat.le_refl _) i2.1 i2.2
  · rw [e1, e2]
    have hv : chk (mergeV (baseR C (hat C H s).toNat (hat C H t).toNat) (C.getD (hat C H s).toNat ([], [])).1 (C.getD (hat C H t).toNat ([], [])).1) = 0 := by
      unfold mergeV; rw [if_pos h5]; exact mrows_ok h5
    have hd := dchk_snoc (c := (_, [min (hat C H s) (hat C H t), max (hat C H s) (hat C H t)])) (rchk_zero hr).1 h4 hv (pr_two (by omega) (by omega) (by omega))
    exact rchk_set hr hd (by simp) (by omega) (by simp; omega)
theorem join_heads {C : List Com} {H : List Hd} {s t : ByteArray} (h : joinE C H s t = 0) : ∃ c : Nat, c < (joinC C H s t).length ∧ (hchk (joinC C H s t) (joinH C H s t) s = 0 ∧ hat (joinC C H s t) (joinH C H s t) s = c) ∧
    (∀ u, u ≠ s → hchk (joinC C H s t) (joinH C H s t) u = hchk C H u ∧ hat (joinC C H s t) (joinH C H s t) u = hat C H u) ∧ (above (joinC C H s t) c).getD (hat C H s).toNat false = true ∧ (above (joinC C H s t) c).getD (hat C H t).toNat false = true := by
  have hr' := join_right h
  obtain ⟨h1, h2, h3, hor⟩ := join_parts h
  have i1 := hat_in h1
  have i2 := hat_in h2
  have R := (dchk_zero (rchk_zero hr').1).2
  rcases hor with ⟨h4, e1, e2⟩ | ⟨_, h4, h5, e1, e2⟩
  · rw [e2] at hr' ⊢
    obtain ⟨m1, m2⟩ := moved h1 hr'
    refine ⟨(hat C H t).toNat, by rw [e1]; omega, ⟨m1.1, by rw [m1.2]; omega⟩, m2, by rw [e1]; exact h4, ?_⟩
    rw [e1] at R ⊢
    exact (above_iff R (by omega) _).2 .self
  · rw [e2] at hr' ⊢
    obtain ⟨m1, m2⟩ := moved h1 hr'
    have par : ((joinC C H s t).getD C.length ([], [])).2 = [min (hat C H s) (hat C H t), max (hat C H s) (hat C H t)] := by rw [e1, snoc_eq]
    have hl : C.length < (joinC C H s t).length := by rw [e1]; simp
    refine ⟨C.length, hl, m1, m2, ?_, ?_⟩
    · refine (above_iff R hl _).2 (.up (p := hat C H s) .self ?_ rfl)
      rw [par]
      have : hat C H s = min (hat C H s) (hat C H t) ∨ hat C H s = max (hat C H s) (hat C H t) := by omega
      rcases this with e | e
      · exact List.mem_cons.2 (Or.inl e)
      · exact List.mem_cons.2 (Or.inr (List.mem_singleton.2 e))
    · refine (above_iff R hl _).2 (.up (p := hat C H t) .self ?_ rfl)
      rw [par]
      have : hat C H t = min (hat C H s) (hat C H t) ∨ hat C H t = max (hat C H s) (hat C H t) := by omega
      rcases this with e | e
      · exact List.mem_cons.2 (Or.inl e)
      · exact List.mem_cons.2 (Or.inr (List.mem_singleton.2 e))
/-- Merged again, nothing would change. -/
theorem join_again {C : List Com} {H : List Hd} {s t : ByteArray} (h : joinE C H s t = 0) : joinE (joinC C H s t) (joinH C H s t) s t = 9 := by
  obtain ⟨c, _, ⟨k1, k2⟩, k3, _, k5⟩ := join_heads h
  obtain ⟨h1, h2, _⟩ := join_parts h
  obtain ⟨l1, l2⟩ := k3 t (Ne.symm (join_ne h).2)
  unfold joinE
  have e0 : openE (joinC C H s t) (joinH C H s t) [s, t] = 0 := by simp [openE, k1, l1, h2]
  rw [if_neg (by rw [e0]; simp)]
  unfold joinAt
  rw [k2, l2, Int.toNat_natCast, if_pos k5]

/-! ### Branch, Drop -/
theorem br_parts {C : List Com} {H : List Hd} {s t : ByteArray} (h : brE C H s t = 0) : hchk C H t = 0 ∧ nam s = true ∧ plc H s < 0 ∧ H.length < 4 ∧ brC C H s t = C ∧ brH C H s t = insH (s, hat C H t) H := by
  have e1 : brC C H s t = C := by unfold brC; rw [if_pos h]
  have e2 : brH C H s t = insH (s, hat C H t) H := by unfold brH; rw [if_pos h]
  unfold brE at h
  split at h
  · rename_i h1; exact absurd h h1
  · rename_i h1
    split at h
    · omega
    · rename_i h2
      split at h
      · omega
      · rename_i h3
        split at h
        · omega
        · exact ⟨by simpa using h1, by simpa using h2, by omega, by omega, e1, e2⟩
theorem plc_none {H : List Hd} {s : ByteArray} (h : plc H s < 0) : ∀ y ∈ H, y.1 ≠ s := by
  intro y hy e
  have : 0 ≤ plc H s := (idxF_neg _ H 0).2 (List.any_eq_true.2 ⟨y, hy, (alike_iff _ _).2 e⟩)
  omega
theorem br_right {C : List Com} {H : List Hd} {s t : ByteArray} (h : brE C H s t = 0) : rchk (brC C H s t) (brH C H s t) = 0 := by
  obtain ⟨h1, h2, h3, h4, e1, e2⟩ := br_parts h
  obtain ⟨hr, _⟩ := hchk_zero h1
  obtain ⟨a1, a2, a3, a4, a5⟩ := rchk_zero hr
  have hi := hat_in h1
  rw [e1, e2]
  refine rchk_of a1 (by rw [insH_len]; omega) (named_mem.2 fun y hy => ?_) (inside_mem.2 fun y hy => ?_) (rise_of (insH_rise (rise_all a5) (plc_none h3)))
  · rcases (insH_mem _ _ _).1 hy with rfl | hy
    · exact h2
    · exact named_mem.1 a3 y hy
  · rcases (insH_mem _ _ _).1 hy with rfl | hy
    · exact hi
    · exact inside_mem.1 a4 y hy
theorem br_heads {C : List Com} {H : List Hd} {s t : ByteArray} (h : brE C H s t = 0) : ∀ u, u ≠ s → hchk (brC C H s t) (brH C H s t) u = hchk C H u ∧ hat (brC C H s t) (brH C H s t) u = hat C H u := by
  have hr' := br_right h
  obtain ⟨h1, h2, h3, h4, e1, e2⟩ := br_parts h
  obtain ⟨hr, _⟩ := hchk_zero h1
  rw [e2] at hr' ⊢
  intro u hu
  refine hd_same hr' hr fun y => ?_
  rw [insH_mem]
  simp [hu]
theorem drop_parts {C : List Com} {H : List Hd} {s : ByteArray} (h : dropE C H s = 0) : hchk C H s = 0 ∧ dropC C H s = C ∧ dropH C H s = H.eraseIdx (plc H s).toNat := by
  have e1 : dropC C H s = C := by unfold dropC; rw [if_pos h]
  have e2 : dropH C H s = H.eraseIdx (plc H s).toNat := by unfold dropH; rw [if_pos h]
  unfold dropE at h
  split at h
  · rename_i h1; exact absurd h h1
  · rename_i h1; exact ⟨by simpa using h1, e1, e2⟩
theorem drop_right {C : List Com} {H : List Hd} {s : ByteArray} (h : dropE C H s = 0) : rchk (dropC C H s) (dropH C H s) = 0 := by
  obtain ⟨h1, e1, e2⟩ := drop_parts h
  obtain ⟨hr, _⟩ := hchk_zero h1
  obtain ⟨a1, a2, a3, a4, a5⟩ := rchk_zero hr
  have sub := List.eraseIdx_sublist H (plc H s).toNat
  rw [e1, e2]
  exact rchk_of a1 (Nat.le_trans sub.length_le a2) (named_mem.2 fun y hy => named_mem.1 a3 y (sub.subset hy)) (inside_mem.2 fun y hy => inside_mem.1 a4 y (sub.subset hy)) (rise_of ((rise_all a5).sublist sub))
theorem drop_heads {C : List Com} {H : List Hd} {s : ByteArray} (h : dropE C H s = 0) : ∀ u, u ≠ s → hchk (dropC C H s) (dropH C H s) u = hchk C H u ∧ hat (dropC C H s) (dropH C H s) u = hat C H u := by
  have hr' := drop_right h
  obtain ⟨h1, e1, e2⟩ := drop_parts h
  obtain ⟨hr, hp⟩ := hchk_zero h1
  have hl := plc_lt H s
  have hk : (plc H s).toNat < H.length := by omega
  have ha := idxF_at (fun h : Hd => alike h.1 s) H 0 hd0 hp
  rw [Nat.sub_zero] at ha
  have es : (H.getD (plc H s).toNat hd0).1 = s := (alike_iff _ _).1 ha
  rw [show H.getD (plc H s).toNat hd0 = H[(plc H s).toNat] by simp [List.getD, hk]] at es
  have sub := List.eraseIdx_sublist H (plc H s).toNat
  rw [e2] at hr' ⊢
  intro u hu
  refine hd_same hr' hr fun y => ⟨fun hm => sub.subset hm, fun hm => ?_⟩
  rw [List.mem_eraseIdx_iff_getElem]
  obtain ⟨i, hi, e⟩ := List.getElem_of_mem hm
  refine ⟨i, hi, fun hki => ?_, e⟩
  subst hki
  rw [e] at es
  exact hu es
end Go.Proofs.YtcgpgflnihjpiafGreat.M

/- From an argument's reading to the rows that it holds. -/
namespace Go.Proofs.YtcgpgflnihjpiafGreat
open Go.ChangeShapes Go.WideShapes Go.ChangeAt Go.RowKit Go.Deep

theorem ownTry : ownKnob Tryz.prog.godebug = none := by kernel_rfl
theorem laidTry : laidOutB Tryz.prog = true := by kernel_rfl

theorem open_rows {H : Type} {enc : TypeId × Value → H} {w : World} {base : Nat} {spare : Nat → Bool} {held : Bool} {fuel : Nat} {a : Option Addr} {len cap : Nat} {x : DataW H × List MemPlace}
    (h : DataW.trod enc Tryz.prog w base spare held fuel 49 [.slice a len cap] = some x) : ∃ l, Rd w a len l ∧ len ≤ cap ∧ cap ≤ maxLen ∧ (a = none → len = 0 ∧ cap = 0) := by
  rcases open_slice_pairs Tryz.underlying49 Tryz.underlying98 (by kernel_rfl) rfl rfl (by kernel_rfl) (by kernel_rfl) h with ⟨hcs, _⟩ | ⟨ad, len', cap', m, n, V0, V1, D0, D1, P0, P1, hcs, _, hl, hm, hmm, _, hc⟩
  · simp at hcs
    obtain ⟨rfl, rfl, rfl⟩ := hcs
    exact ⟨[], ⟨rfl, Or.inl rfl⟩, Nat.le_refl _, by simp [maxLen], fun _ => ⟨rfl, rfl⟩⟩
  · simp at hcs
    obtain ⟨rfl, rfl, rfl⟩ := hcs
    have hlm : len ≤ m := by rw [hmm]; split <;> omega
    have each : ∀ i, i < len → ∃ q : Int × Int, w.cell? (ad.add (i * 2)) = some (.int .i64 q.1) ∧ w.cell? (ad.add (i * 2 + 1)) = some (.int .i64 q.2) := by
      intro i hi
      obtain ⟨c0, c1, t0, t1⟩ := hc i (by omega)
      obtain ⟨x0, e0, _, _⟩ := DataW.trod_int (k := .i64) Tryz.underlying3 t0
      obtain ⟨x1, e1, _, _⟩ := DataW.trod_int (k := .i64) Tryz.underlying3 t1
      simp at e0 e1
      rw [e0] at c0
      rw [e1] at c1
      exact ⟨(x0, x1), c0, c1⟩
    obtain ⟨q, hq⟩ := choose_lt each
    refine ⟨(List.range len).map q, ⟨by simp, ?_⟩, hl, hm, fun h => by simp at h⟩
    by_cases h0 : len = 0
    · exact Or.inl h0
    · obtain ⟨b, off, spot⟩ := ad
      have hs : spot = none := by
        have h1 := (hq 0 (by omega)).1
        simpa [Addr.add] using World.cell?_spot h1
      subst hs
      refine Or.inr ⟨b, off, rfl, World.block_lt_of_cell? w _ (hq 0 (by omega)).1, fun i hi => ?_⟩
      have h1 := hq i hi
      rw [Addr.add_lit, Addr.add_lit, ← Nat.add_assoc] at h1
      have e : ((List.range len).map q).getD i (0, 0) = q i := by simp [List.getD, hi]
      rw [e]
      exact h1
end Go.Proofs.YtcgpgflnihjpiafGreat

/- From an argument's reading to the commits that it holds. -/
namespace Go.Proofs.YtcgpgflnihjpiafGreat
open Go.ChangeShapes Go.WideShapes Go.ChangeAt Go.RowKit Go.Deep

section
variable {H : Type} {enc : TypeId × Value → H} {w : World} {base : Nat} {spare : Nat → Bool} {held : Bool}

theorem open_rowsC {fuel : Nat} {cs : List Value} {x : DataW H × List MemPlace} (h : DataW.trod enc Tryz.prog w base spare held fuel 49 cs = some x) :
    ∃ a len cap l, cs = [.slice a len cap] ∧ Rd w a len l ∧ len ≤ 9223372036854775807 := by
  rcases open_slice_pairs Tryz.underlying49 Tryz.underlying98 (by kernel_rfl) rfl rfl (by kernel_rfl) (by kernel_rfl) h with ⟨rfl, rfl⟩ | ⟨ad, len, cap, m, n, V0, V1, D0, D1, P0, P1, rfl, _, hl, hm, hmm, rfl, hc⟩
  · obtain ⟨l, r1, r2⟩ := open_rows h
    exact ⟨none, 0, 0, l, rfl, r1, by omega⟩
  · obtain ⟨l, r1, r2⟩ := open_rows h
    exact ⟨some ad, len, cap, l, rfl, r1, by unfold maxLen at hm; omega⟩

theorem open_intsC {fuel : Nat} {cs : List Value} {x : DataW H × List MemPlace} (h : DataW.trod enc Tryz.prog w base spare held fuel 38 cs = some x) :
    ∃ a len cap l, cs = [.slice a len cap] ∧ Ri w a len l ∧ len ≤ 9223372036854775807 := by
  rcases open_slice1 Tryz.underlying38 (by kernel_rfl) h with ⟨rfl, rfl⟩ | ⟨ad, len, cap, m, n, V, D, Pl, rfl, _, hl, hm, hmm, rfl, hc⟩
  · exact ⟨none, 0, 0, [], rfl, ⟨rfl, Or.inl rfl⟩, by omega⟩
  · have hlm : len ≤ m := by rw [hmm]; split <;> omega
    have each : ∀ i, i < len → ∃ q : Int, w.cell? (ad.add i) = some (.int .i64 q) := by
      intro i hi
      obtain ⟨c0, t0⟩ := hc i (by omega)
      obtain ⟨x0, e0, _, _⟩ := DataW.trod_int (k := .i64) Tryz.underlying3 t0
      simp at e0
      rw [e0] at c0
      exact ⟨x0, c0⟩
    obtain ⟨q, hq⟩ := choose_lt each
    refine ⟨some ad, len, cap, (List.range len).map q, rfl, ⟨by simp, ?_⟩, by unfold maxLen at hm; omega⟩
    by_cases h0 : len = 0
    · exact Or.inl h0
    · obtain ⟨b, off, spot⟩ := ad
      have hs : spot = none := by
        have h1 := hq 0 (by omega)
        simpa [Addr.add] using World.cell?_spot h1
      subst hs
      refine Or.inr ⟨b, off, rfl, World.block_lt_of_cell? w _ (hq 0 (by omega)), fun i hi => ?_⟩
      have h1 := hq i hi
      rw [Addr.add_lit] at h1
      have e : ((List.range len).map q).getD i 0 = q i := by simp [List.getD, hi]
      rw [e]
      exact h1

theorem open_coms {fuel : Nat} {a : Option Addr} {len cap : Nat} {x : DataW H × List MemPlace} (h : DataW.trod enc Tryz.prog w base spare held fuel 22 [.slice a len cap] = some x) :
    ∃ L, Cm w a len L ∧ len ≤ cap ∧ cap ≤ maxLen := by
  rcases open_slice_pairs Tryz.underlying22 Tryz.underlying51 (by kernel_rfl) rfl rfl (by kernel_rfl) (by kernel_rfl) h with ⟨hcs, _⟩ | ⟨ad, len', cap', m, n, V0, V1, D0, D1, P0, P1, hcs, _, hl, hm, hmm, _, hc⟩
  · simp at hcs
    obtain ⟨rfl, rfl, rfl⟩ := hcs
    exact ⟨[], ⟨rfl, Or.inl rfl⟩, Nat.le_refl _, by simp [maxLen]⟩
  · simp at hcs
    obtain ⟨rfl, rfl, rfl⟩ := hcs
    have hlm : len ≤ m := by rw [hmm]; split <;> omega
    have each : ∀ i, i < len → ∃ q : ((Option Addr × Nat × Nat) × (Option Addr × Nat × Nat)) × M.Com, w.cell? (ad.add (i * 2)) = some (.slice q.1.1.1 q.1.1.2.1 q.1.1.2.2) ∧ w.cell? (ad.add (i * 2 + 1)) = some (.slice q.1.2.1 q.1.2.2.1 q.1.2.2.2) ∧ Rd w q.1.1.1 q.1.1.2.1 q.2.1 ∧ Ri w q.1.2.1 q.1.2.2.1 q.2.2 ∧ q.1.1.2.1 ≤ 9223372036854775807 ∧ q.1.2.2.1 ≤ 9223372036854775807 := by
      intro i hi
      obtain ⟨c0, c1, t0, t1⟩ := hc i (by omega)
      obtain ⟨a1, n1, k1, l1, e0, r1, m1⟩ := open_rowsC t0
      obtain ⟨a2, n2, k2, l2, e1, r2, m2⟩ := open_intsC t1
      simp at e0 e1
      rw [e0] at c0
      rw [e1] at c1
      exact ⟨(((a1, n1, k1), (a2, n2, k2)), (l1, l2)), c0, c1, r1, r2, m1, m2⟩
    obtain ⟨q, hq⟩ := choose_lt each
    refine ⟨(List.range len).map fun i => (q i).2, ⟨by simp, ?_⟩, hl, hm⟩
    by_cases h0 : len = 0
    · exact Or.inl h0
    · obtain ⟨b, off, spot⟩ := ad
      have hs : spot = none := by
        have h1 := (hq 0 (by omega)).1
        simpa [Addr.add] using World.cell?_spot h1
      subst hs
      refine Or.inr ⟨b, off, rfl, World.block_lt_of_cell? w _ (hq 0 (by omega)).1, fun i hi => ?_⟩
      have h1 := hq i hi
      rw [Addr.add_lit, Addr.add_lit, ← Nat.add_assoc] at h1
      have e : ((List.range len).map fun i => (q i).2).getD i ([], []) = (q i).2 := by simp [List.getD, hi]
      rw [e]
      exact ⟨_, _, _, _, _, _, h1⟩
end
end Go.Proofs.YtcgpgflnihjpiafGreat

/- From an argument's reading to the repo that it holds. -/
namespace Go.Proofs.YtcgpgflnihjpiafGreat
open Go.ChangeShapes Go.WideShapes Go.ChangeAt Go.RowKit Go.Deep

section
variable {H : Type} {enc : TypeId × Value → H} {w : World} {base : Nat} {spare : Nat → Bool} {held : Bool}

theorem open_comsC {fuel : Nat} {v : Value} {x : DataW H × List MemPlace} (h : DataW.trod enc Tryz.prog w base spare held fuel 22 [v] = some x) :
    ∃ a len cap L, v = .slice a len cap ∧ Cm w a len L ∧ len ≤ cap ∧ cap ≤ maxLen := by
  rcases open_slice_pairs Tryz.underlying22 Tryz.underlying51 (by kernel_rfl) rfl rfl (by kernel_rfl) (by kernel_rfl) h with ⟨hcs, _⟩ | ⟨ad, len', cap', m, n, V0, V1, D0, D1, P0, P1, hcs, _⟩
  · simp at hcs
    subst hcs
    obtain ⟨L, r⟩ := open_coms h
    exact ⟨none, 0, 0, L, rfl, r⟩
  · simp at hcs
    subst hcs
    obtain ⟨L, r⟩ := open_coms h
    exact ⟨some ad, len', cap', L, rfl, r⟩

theorem open_headsC {fuel : Nat} {v : Value} {x : DataW H × List MemPlace} (h : DataW.trod enc Tryz.prog w base spare held fuel 23 [v] = some x) :
    ∃ a len cap L, v = .slice a len cap ∧ Hs w a len L ∧ len ≤ cap ∧ cap ≤ maxLen ∧ (a = none → len = 0 ∧ cap = 0) := by
  rcases open_slice_pairs Tryz.underlying23 Tryz.underlying71 (by kernel_rfl) rfl rfl (by kernel_rfl) (by kernel_rfl) h with ⟨hcs, _⟩ | ⟨ad, len, cap, m, n, V0, V1, D0, D1, P0, P1, hcs, _, hl, hm, hmm, _, hc⟩
  · simp at hcs
    subst hcs
    exact ⟨none, 0, 0, [], rfl, ⟨rfl, Or.inl rfl⟩, Nat.le_refl _, by simp [maxLen], fun _ => ⟨rfl, rfl⟩⟩
  · simp at hcs
    subst hcs
    have hlm : len ≤ m := by rw [hmm]; split <;> omega
    have each : ∀ i, i < len → ∃ q : M.Hd, w.cell? (ad.add (i * 2)) = some (.string q.1) ∧ w.cell? (ad.add (i * 2 + 1)) = some (.int .i64 q.2) ∧ q.1.size ≤ 9223372036854775807 := by
      intro i hi
      obtain ⟨c0, c1, t0, t1⟩ := hc i (by omega)
      obtain ⟨s0, e0, _, z0⟩ := DataW.trod_string Tryz.underlying9 t0
      obtain ⟨x1, e1, _, _⟩ := DataW.trod_int (k := .i64) Tryz.underlying3 t1
      simp at e0 e1
      rw [e0] at c0
      rw [e1] at c1
      exact ⟨(s0, x1), c0, c1, by unfold maxLen at z0; exact z0⟩
    obtain ⟨q, hq⟩ := choose_lt each
    refine ⟨some ad, len, cap, (List.range len).map q, rfl, ⟨by simp, ?_⟩, hl, hm, fun h => by simp at h⟩
    by_cases h0 : len = 0
    · exact Or.inl h0
    · obtain ⟨b, off, spot⟩ := ad
      have hs : spot = none := by
        have h1 := (hq 0 (by omega)).1
        simpa [Addr.add] using World.cell?_spot h1
      subst hs
      refine Or.inr ⟨b, off, rfl, World.block_lt_of_cell? w _ (hq 0 (by omega)).1, fun i hi => ?_⟩
      have h1 := hq i hi
      rw [Addr.add_lit, Addr.add_lit, ← Nat.add_assoc] at h1
      have e : ((List.range len).map q).getD i M.hd0 = q i := by simp [List.getD, hi]
      rw [e]
      exact h1

set_option maxRecDepth 100000 in
theorem open_repo {r : Reach} {b0 : Nat} {v : Value} {d : DataW H} {p : List MemPlace} (hv : Value.okWide Tryz.prog w r b0 25 v) (h : DataW.Trod enc Tryz.prog w base spare held 25 v d p) :
    ∃ a n cap a2 n2 cap2 C L, v = .agg #[.slice a n cap, .slice a2 n2 cap2] ∧ Cm w a n C ∧ n ≤ 9223372036854775807 ∧ Hs w a2 n2 L ∧ n2 ≤ 9223372036854775807 := by
  obtain ⟨v0, v1, y0, y1, m, rfl, _, _, h0, h1⟩ := Joins.open_agg2 Tryz.underlying25 (by kernel_rfl) (by kernel_rfl) hv h
  obtain ⟨a, n, cap, C, rfl, c1, c2, c3⟩ := open_comsC h0
  obtain ⟨a2, n2, cap2, L, rfl, l1, l2, l3, _⟩ := open_headsC h1
  exact ⟨a, n, cap, a2, n2, cap2, C, L, rfl, c1, by unfold maxLen at c3; omega, l1, by unfold maxLen at l3; omega⟩
end
end Go.Proofs.YtcgpgflnihjpiafGreat

/- From an argument's reading to the repo that it holds, its nil slices too. -/
namespace Go.Proofs.YtcgpgflnihjpiafGreat
open Go.ChangeShapes Go.WideShapes Go.ChangeAt Go.RowKit Go.Deep

section
variable {H : Type} {enc : TypeId × Value → H} {w : World} {base : Nat} {spare : Nat → Bool} {held : Bool}

theorem open_rowsN {fuel : Nat} {cs : List Value} {x : DataW H × List MemPlace} (h : DataW.trod enc Tryz.prog w base spare held fuel 49 cs = some x) :
    ∃ a len cap, cs = [.slice a len cap] ∧ (a = none → len = 0 ∧ cap = 0) := by
  rcases open_slice_pairs Tryz.underlying49 Tryz.underlying98 (by kernel_rfl) rfl rfl (by kernel_rfl) (by kernel_rfl) h with ⟨rfl, rfl⟩ | ⟨ad, len, cap, m, n, V0, V1, D0, D1, P0, P1, rfl, _⟩
  · exact ⟨none, 0, 0, rfl, fun _ => ⟨rfl, rfl⟩⟩
  · exact ⟨some ad, len, cap, rfl, fun h => by simp at h⟩
theorem open_intsN {fuel : Nat} {cs : List Value} {x : DataW H × List MemPlace} (h : DataW.trod enc Tryz.prog w base spare held fuel 38 cs = some x) :
    ∃ a len cap, cs = [.slice a len cap] ∧ (a = none → len = 0 ∧ cap = 0) := by
  rcases open_slice1 Tryz.underlying38 (by kernel_rfl) h with ⟨rfl, rfl⟩ | ⟨ad, len, cap, m, n, V, D, Pl, rfl, _⟩
  · exact ⟨none, 0, 0, rfl, fun _ => ⟨rfl, rfl⟩⟩
  · exact ⟨some ad, len, cap, rfl, fun h => by simp at h⟩
theorem open_cn {fuel : Nat} {a : Option Addr} {len cap : Nat} {x : DataW H × List MemPlace} (h : DataW.trod enc Tryz.prog w base spare held fuel 22 [.slice a len cap] = some x) : Cn w a len := by
  rcases open_slice_pairs Tryz.underlying22 Tryz.underlying51 (by kernel_rfl) rfl rfl (by kernel_rfl) (by kernel_rfl) h with ⟨hcs, _⟩ | ⟨ad, len', cap', m, n, V0, V1, D0, D1, P0, P1, hcs, _, hl, hm, hmm, _, hc⟩
  · simp at hcs
    obtain ⟨rfl, rfl, rfl⟩ := hcs
    intro b off e
    simp at e
  · simp at hcs
    obtain ⟨rfl, rfl, rfl⟩ := hcs
    have hlm : len ≤ m := by rw [hmm]; split <;> omega
    intro b off e i hi y k c hor hy
    obtain rfl : ad = ⟨b, off, none⟩ := by simpa using e
    obtain ⟨c0, c1, t0, t1⟩ := hc i (by omega)
    obtain ⟨a1, n1, k1, e0, z0⟩ := open_rowsN t0
    obtain ⟨a2, n2, k2, e1, z1⟩ := open_intsN t1
    simp at e0 e1
    rw [e0, Addr.add_lit] at c0
    rw [e1, Addr.add_lit, ← Nat.add_assoc] at c1
    rcases hor with hcc | hcc
    · rw [hcc] at c0
      simp at c0
      obtain ⟨rfl, rfl, rfl⟩ := c0
      exact z0 hy
    · rw [hcc] at c1
      simp at c1
      obtain ⟨rfl, rfl, rfl⟩ := c1
      exact z1 hy
set_option maxRecDepth 100000 in
theorem open_repoV {r : Reach} {b0 : Nat} {v : Value} {d : DataW H} {p : List MemPlace} (hv : Value.okWide Tryz.prog w r b0 25 v) (h : DataW.Trod enc Tryz.prog w base spare held 25 v d p) :
    ∃ a n cap a2 n2 cap2 C L, v = .agg #[.slice a n cap, .slice a2 n2 cap2] ∧ RepoV w a n cap C a2 n2 cap2 L ∧ n2 ≤ cap2 ∧ cap2 ≤ maxLen := by
  obtain ⟨v0, v1, y0, y1, m, rfl, _, _, h0, h1⟩ := Joins.open_agg2 Tryz.underlying25 (by kernel_rfl) (by kernel_rfl) hv h
  obtain ⟨a, n, cap, C, rfl, c1, c2, c3⟩ := open_comsC h0
  obtain ⟨a2, n2, cap2, L, rfl, l1, l2, l3, l4⟩ := open_headsC h1
  exact ⟨a, n, cap, a2, n2, cap2, C, L, rfl, ⟨c1, open_cn h0, by unfold maxLen at c3; omega, l1, by unfold maxLen at l3; omega, l4⟩, l2, l3⟩
end
end Go.Proofs.YtcgpgflnihjpiafGreat

/- For every repo and every two names, the law WorkMerged returns true and leaves its arguments as they were: what was merged is in. No condition. -/
namespace Go.Proofs.YtcgpgflnihjpiafGreat
open Go.ChangeShapes Go.WideShapes Go.ChangeAt Go.RowKit

theorem begun_ret {w V : World} (hb : Below w.heap.size w V) : Calls Tryz.prog 10 #[] V fun e w' => e = .returned (.bool true) ∧ Below w.heap.size w w' :=
  (wbegun_any V).mono fun _ _ h => ⟨h.1, hb.trans (h.2.mono hb.size)⟩

set_option maxRecDepth 100000 in
set_option maxHeartbeats 16000000 in
theorem workMerged_walk (a : Option Addr) (n cap : Nat) (C : List M.Com) (a2 : Option Addr) (n2 cap2 : Nat) (H : List M.Hd) (s t : ByteArray) (w : World) (hV : RepoV w a n cap C a2 n2 cap2 H) :
    Calls Tryz.prog 4 #[.agg #[.slice a n cap, .slice a2 n2 cap2], .string s, .string t] w fun e w' => e = .returned (.bool true) ∧ Below w.heap.size w w' := by
  obtain ⟨p, hp⟩ : ∃ p, p = w.heap.size := ⟨_, rfl⟩
  obtain ⟨W, hW⟩ : ∃ W, W = w.alloc (.cells #[.slice a n cap, .slice a2 n2 cap2] 25) := ⟨_, rfl⟩
  have hb : Below w.heap.size w W := by rw [hW]; exact (Below.refl _ _).alloc (Nat.le_refl _) _
  have HB : Hid (KBox W p a n cap C a2 n2 cap2 H) := by rw [hW, hp]; exact KBox.new hV
  have HW : Hid (W = w.alloc (.cells #[.slice a n cap, .slice a2 n2 cap2] 25)) := hW
  have HP : Aside (p = w.heap.size) := hp
  obtain ⟨E, hE⟩ : ∃ E, E = M.joinE C H s t := ⟨_, rfl⟩
  obtain ⟨z1, hz1⟩ : ∃ z, z = M.hchk C H s := ⟨_, rfl⟩
  obtain ⟨z2, hz2⟩ : ∃ z, z = M.hchk C H t := ⟨_, rfl⟩
  obtain ⟨x, hx⟩ : ∃ x, x = M.hat C H s := ⟨_, rfl⟩
  obtain ⟨y, hy⟩ : ∃ y, y = M.hat C H t := ⟨_, rfl⟩
  have F1 : Hid (∀ V, Below W.heap.size W V → Calls Tryz.prog 13 #[.agg #[.slice a n cap, .slice a2 n2 cap2], .string s] V fun e w' => e = .returned (.tuple #[.int .i64 x, .int .i64 z1]) ∧ Below V.heap.size V w') := fun V hB => by rw [hx, hz1]; exact head_any a n cap C a2 n2 cap2 H s V (HB.out.v.later hB).cm hV.nm (HB.out.v.later hB).hs hV.hm
  have F2 : Hid (∀ V, Below W.heap.size W V → Calls Tryz.prog 13 #[.agg #[.slice a n cap, .slice a2 n2 cap2], .string t] V fun e w' => e = .returned (.tuple #[.int .i64 y, .int .i64 z2]) ∧ Below V.heap.size V w') := fun V hB => by rw [hy, hz2]; exact head_any a n cap C a2 n2 cap2 H t V (HB.out.v.later hB).cm hV.nm (HB.out.v.later hB).hs hV.hm
  have F3 : Hid (∀ V, Below W.heap.size W V → Calls Tryz.prog 14 #[.agg #[.slice a n cap, .slice a2 n2 cap2], .string s, .string t] V fun e w' => ∃ v kb kn kc, e = .returned (.tuple #[v, .slice kb kn kc, .int .i64 E]) ∧ RepoOwn w' V.heap.size v (M.joinC C H s t) (M.joinH C H s t) ∧ Ri w' kb kn (M.joinK C H s t) ∧ kn ≤ kc ∧ kc ≤ maxLen ∧ Below V.heap.size V w') := fun V hB => by rw [hE]; exact wmerge_any a n cap C a2 n2 cap2 H s t V (HB.out.v.later hB)
  have HE : Aside (E = M.joinE C H s t) := hE
  have HZ1 : Aside (z1 = M.hchk C H s) := hz1
  have HZ2 : Aside (z2 = M.hchk C H t) := hz2
  have HX : Aside (x = M.hat C H s) := hx
  have HY : Aside (y = M.hat C H t) := hy
  have b00 : Below W.heap.size W W := Below.refl _ _
  have c0 := HB.out.c0
  have c1 := HB.out.c1
  clear hW hp hV hE hz1 hz2 hx hy
  go_enter Tryz.func4, Tryz.ntmps4
  go_wp2_with fail
  rw [← HW.out, ← HP.out]
  refine (F1.out _ b00).mono ?_
  rintro e u1 ⟨rfl, q1⟩
  have d0 := (HB.out.later q1).c0
  have d1 := (HB.out.later q1).c1
  clear c0 c1
  go_wp2_with fail
  refine (F2.out _ q1).mono ?_
  rintro e u2 ⟨rfl, q2⟩
  have b0 := dbelow2 q1 q2
  have c0 := (HB.out.later b0).c0
  have c1 := (HB.out.later b0).c1
  clear d0 d1 q1 q2
  go_wp2_with fail
  refine (F3.out _ b0).mono ?_
  rintro e v1 ⟨r1, kb1, kn1, kc1, rfl, o1, ki1, kl1, km1, bb1⟩
  obtain ⟨xa1, xc1, ya1, yc1, rfl, V1⟩ := o1.v
  obtain ⟨ln1, hln1⟩ : ∃ ln, ln = (M.joinC C H s t).length := ⟨_, rfl⟩
  obtain ⟨lh1, hlh1⟩ : ∃ lh, lh = (M.joinH C H s t).length := ⟨_, rfl⟩
  rw [← hln1, ← hlh1] at V1 ⊢
  obtain ⟨X1, hX1⟩ : ∃ X, X = v1.alloc (.cells #[.slice xa1 ln1 xc1, .slice ya1 lh1 yc1] 25) := ⟨_, rfl⟩
  obtain ⟨p1, hp1⟩ : ∃ p, p = v1.heap.size := ⟨_, rfl⟩
  have bX1 : Below v1.heap.size v1 X1 := by rw [hX1]; exact (Below.refl _ _).alloc (Nat.le_refl _) _
  have HB1 : Hid (KBox X1 p1 xa1 ln1 xc1 (M.joinC C H s t) ya1 lh1 yc1 (M.joinH C H s t)) := by rw [hX1, hp1]; exact KBox.new V1
  have HX1 : Hid (X1 = v1.alloc (.cells #[.slice xa1 ln1 xc1, .slice ya1 lh1 yc1] 25)) := hX1
  have HP1 : Aside (p1 = v1.heap.size) := hp1
  have q1 : Below u2.heap.size u2 X1 := dbelow2 bb1 bX1
  have b1 : Below W.heap.size W X1 := dbelow2 b0 q1
  have HK1 : Hid (Ri X1 kb1 kn1 (M.joinK C H s t)) := ki1.below bX1 (Nat.le_refl _)
  have dq0 := (HB.out.later b1).c0
  have dq1 := (HB.out.later b1).c1
  rw [hX1] at dq0 dq1
  have HLn1 : Aside (ln1 = (M.joinC C H s t).length) := hln1
  have HLh1 : Aside (lh1 = (M.joinH C H s t).length) := hlh1
  clear hln1 hlh1
  clear c0 c1 o1 V1 hX1 hp1 bX1 bb1 q1 ki1
  have c0 := dq0
  have c1 := dq1
  clear dq0 dq1
  have HK : Hid (Below w.heap.size w X1) := hb.trans (b1.mono hb.size)
  clear c0 c1 kl1 km1
  by_cases h1 : z1 = 0
  case neg =>
    have h1b : (z1 != 0) = true := by simp [h1]
    clear h1
    go_wp2_with fail
    rw [← HX1.out]
    refine (begun_ret HK.out).mono ?_
    rintro e Y ⟨rfl, bY⟩
    go_wp2
    go_ret
    exact ⟨rfl, bY⟩
  subst h1
  by_cases h2 : z2 = 0
  case neg =>
    have h1b : (z2 != 0) = true := by simp [h2]
    clear h2
    go_wp2_with fail
    rw [← HX1.out]
    refine (begun_ret HK.out).mono ?_
    rintro e Y ⟨rfl, bY⟩
    go_wp2
    go_ret
    exact ⟨rfl, bY⟩
  subst h2
  by_cases h3 : E = 0
  case neg =>
    have h1b : (E != 0) = true := by simp [h3]
    clear h3
    go_wp2_with fail
    rw [← HX1.out]
    refine (begun_ret HK.out).mono ?_
    rintro e Y ⟨rfl, bY⟩
    go_wp2
    go_ret
    exact ⟨rfl, bY⟩
  subst h3
  have hJ : M.joinE C H s t = 0 := HE.out.symm
  have HRt : Hid (M.rchk (M.joinC C H s t) (M.joinH C H s t) = 0) := M.join_right hJ
  have HAg : Hid (M.joinE (M.joinC C H s t) (M.joinH C H s t) s t = 9) := M.join_again hJ
  obtain ⟨cc, hcc, ⟨k1, k2⟩, k3, k4, k5⟩ := M.join_heads hJ
  obtain ⟨l1, l2⟩ := k3 t (Ne.symm (M.join_ne hJ).2)
  have i1 := M.hat_in HZ1.out.symm
  have i2 := M.hat_in HZ2.out.symm
  have hCle : C.length ≤ (M.joinC C H s t).length := by
    obtain ⟨_, _, _, hor⟩ := M.join_parts hJ
    rcases hor with ⟨_, e, _⟩ | ⟨_, _, _, e, _⟩
    · rw [e]; exact Nat.le_refl _
    · rw [e]; simp
  rw [← HX.out] at i1 k4
  rw [← HY.out] at i2 k5 l2
  obtain ⟨xn, rfl⟩ : ∃ xn : Nat, x = (xn : Int) := ⟨x.toNat, by omega⟩
  obtain ⟨yn, rfl⟩ : ∃ yn : Nat, y = (yn : Int) := ⟨y.toNat, by omega⟩
  rw [Int.toNat_natCast] at k4 k5
  have hcl : cc < ln1 := by rw [HLn1.out]; exact hcc
  have hxl : xn < ln1 := by have := HLn1.out; omega
  have hyl : yn < ln1 := by have := HLn1.out; omega
  have HG4 : Hid ((M.above (M.joinC C H s t) cc).getD xn false = true) := k4
  have HG5 : Hid ((M.above (M.joinC C H s t) cc).getD yn false = true) := k5
  have HAl : Hid ((M.above (M.joinC C H s t) cc).length = ln1) := by unfold Hid; rw [M.above_len, HLn1.out]
  have G1 : Hid (∀ V, Below X1.heap.size X1 V → Calls Tryz.prog 13 #[.agg #[.slice xa1 ln1 xc1, .slice ya1 lh1 yc1], .string s] V fun e w' => e = .returned (.tuple #[.int .i64 (cc : Int), .int .i64 0]) ∧ Below V.heap.size V w') := fun V hB => by
    have q := (HB1.out.v.later hB)
    have := head_any xa1 ln1 xc1 _ ya1 lh1 yc1 _ s V q.cm q.nm q.hs q.hm
    rw [k1, k2] at this
    exact this
  have G2 : Hid (∀ V, Below X1.heap.size X1 V → Calls Tryz.prog 13 #[.agg #[.slice xa1 ln1 xc1, .slice ya1 lh1 yc1], .string t] V fun e w' => e = .returned (.tuple #[.int .i64 (yn : Int), .int .i64 0]) ∧ Below V.heap.size V w') := fun V hB => by
    have q := (HB1.out.v.later hB)
    have := head_any xa1 ln1 xc1 _ ya1 lh1 yc1 _ t V q.cm q.nm q.hs q.hm
    rw [l1, l2, ← HZ2.out] at this
    exact this
  have G3 : Hid (∀ V, Below X1.heap.size X1 V → Calls Tryz.prog 15 #[.slice xa1 ln1 xc1, .int .i64 (cc : Int)] V fun e w' => ∃ g, e = .returned (.tuple #[.slice (some ⟨g, 0, none⟩) ln1 ln1, .int .i64 0]) ∧ V.heap.size ≤ g ∧ Bo w' g (M.above (M.joinC C H s t) cc) ∧ Below V.heap.size V w') := fun V hB =>
    dabove_in xa1 ln1 xc1 _ cc V (HB1.out.v.later hB).cm (M.rchk_zero HRt.out).1 hcl
  have G4 : Hid (∀ V, Below X1.heap.size X1 V → Calls Tryz.prog 14 #[.agg #[.slice xa1 ln1 xc1, .slice ya1 lh1 yc1], .string s, .string t] V fun e w' => ∃ v kb kn kc, e = .returned (.tuple #[v, .slice kb kn kc, .int .i64 9]) ∧ (∃ C' H', RepoOwn w' V.heap.size v C' H') ∧ Below V.heap.size V w') := fun V hB =>
    (wmerge_any xa1 ln1 xc1 _ ya1 lh1 yc1 _ s t V (HB1.out.v.later hB)).mono fun e w' ⟨v, kb, kn, kc, h1, h2, _, _, _, h3⟩ => ⟨v, kb, kn, kc, by rw [h1, HAg.out], ⟨_, _, h2⟩, h3⟩
  have e0 := HB1.out.c0
  have e1 := HB1.out.c1
  have e0r := e0
  have e1r := e1
  rw [HX1.out, HP1.out] at e0r e1r
  clear k1 k2 k3 k4 k5 l1 l2 i1 i2 hCle hcc hJ
  go_wp2_with fail
  rw [← HX1.out, ← HP1.out]
  refine (G1.out _ (Below.refl _ _)).mono ?_
  rintro e A1 ⟨rfl, qa1⟩
  clear e0 e1 e0r e1r
  have e0 := (HB1.out.later qa1).c0
  have e1 := (HB1.out.later qa1).c1
  go_wp2_with fail
  refine (G2.out _ qa1).mono ?_
  rintro e A2 ⟨rfl, qb2⟩
  have qa2 := dbelow2 qa1 qb2
  clear e0 e1 qa1 qb2
  have e0 := (HB1.out.later qa2).c0
  have e1 := (HB1.out.later qa2).c1
  go_wp2_with fail
  refine (G3.out _ qa2).mono ?_
  rintro e A3 ⟨g, rfl, hg, hBo, qb3⟩
  have qa3 := dbelow2 qa2 qb3
  clear e0 e1
  have e0 := (HB1.out.later qa3).c0
  have e1 := (HB1.out.later qa3).c1
  have hgl : g < A3.heap.size := (Array.getElem?_eq_some_iff.1 hBo).1
  have HBo : Hid (Bo A3 g (M.above (M.joinC C H s t) cc)) := hBo
  clear hBo hg qa2 qb3
  go_wp2_with fail
  refine (G4.out _ qa3).mono ?_
  rintro e A4 ⟨v4, kb4, kn4, kc4, rfl, ⟨C4, H4, o4⟩, qb4⟩
  obtain ⟨xa4, xc4, ya4, yc4, rfl, _⟩ := o4.v
  generalize C4.length = ln4 at *
  generalize H4.length = lh4 at *
  obtain ⟨A5, hA5⟩ : ∃ A5, A5 = A4.alloc (.cells #[.slice xa4 ln4 xc4, .slice ya4 lh4 yc4] 25) := ⟨_, rfl⟩
  have qb5 : Below A4.heap.size A4 A5 := by rw [hA5]; exact (Below.refl _ _).alloc (Nat.le_refl _) _
  have qa5 := dbelow2 qa3 (dbelow2 qb4 qb5)
  have HA5 : Hid (A5 = A4.alloc (.cells #[.slice xa4 ln4 xc4, .slice ya4 lh4 yc4] 25)) := hA5
  have HBw : Hid (Below w.heap.size w A5) := HK.out.trans (qa5.mono HK.out.size)
  have HBo5 : Hid (∀ V, Below A5.heap.size A5 V → Bo V g (M.above (M.joinC C H s t) cc)) := fun V hV => by
    have q := dbelow2 (dbelow2 qb4 qb5) hV
    exact (q.block g hgl).trans HBo.out
  have hx0 : decide ((xn : Int) < 0) = false := by simp
  have hy0 : decide ((yn : Int) < 0) = false := by simp
  have hxi : (xn : Int) < (ln1 : Int) := by omega
  have hyi : (yn : Int) < (ln1 : Int) := by omega
  have hxd : decide ((ln1 : Int) ≤ (xn : Int)) = false := by simp; omega
  have hyd : decide ((ln1 : Int) ≤ (yn : Int)) = false := by simp; omega
  clear e0 e1 hA5 qb4 qb5 qa3 o4
  go_wp2_with fail
  rw [← HA5.out]
  refine (wbegun_any _).mono ?_
  rintro e A6 ⟨rfl, q6⟩
  have o6 := HBo5.out A6 q6
  have m1 : A6.cell? ⟨g, xn, none⟩ = some (.bool true) := by rw [o6.cell (by rw [HAl.out]; exact hxl), HG4.out]
  have m2 : A6.cell? ⟨g, yn, none⟩ = some (.bool true) := by rw [o6.cell (by rw [HAl.out]; exact hyl), HG5.out]
  have bZ : Below w.heap.size w A6 := HBw.out.trans (q6.mono HBw.out.size)
  clear o6 q6
  obtain ⟨eqb, heqb⟩ : ∃ q, (s.toList == t.toList) = q := ⟨_, rfl⟩
  cases eqb with
  | true =>
    go_wp2
    go_ret
    exact ⟨rfl, bZ⟩
  | false =>
    go_wp2
    go_ret
    exact ⟨rfl, bZ⟩
set_option maxRecDepth 100000 in
theorem workMerged_lifted (os : Os) (started : os.Started) (H : Type) (enc : TypeId × Value → H) :
    ReturnsInHanded {} Tryz.checked os 4 .any (Rows.workMergedSpec.pre6 enc Tryz.prog Tryz.f4 Rows.workMergedRow.domain false) (Rows.workMergedSpec.post enc Tryz.prog Tryz.f4 false true false false) := by
  refine returnsInHanded_of_change (C := Tryz.checked) ownTry started (by kernel_rfl) Tryz.func4
    (ChangeSpec.witness6 (enc := enc) (C := Tryz.checked) false ⟨#[], #[.agg #[.slice none 0 0, .slice none 0 0], .string ⟨#[]⟩, .string ⟨#[]⟩], []⟩ 8 (by kernel_rfl) (by kernel_rfl) (by kernel_rfl) (by kernel_rfl)) ?_
  intro W base args ds gs before hval0 hW hcnd _
  have hval : ∀ (j : Nat) t v, Tryz.f4.params[j]? = some t → args[j]? = some v → Value.okWide Tryz.prog W .any base t v := hval0
  have hW' := hW
  obtain ⟨p, q, hA0, hV, rfl, hfz, hnd⟩ := hW
  have hA : DataW.TrodAll enc Tryz.prog W 0 (fun _ => true) true Tryz.f4.params.toList args.toList ds p := hA0
  rw [Tryz.params4] at hA hval
  obtain ⟨v0, vs0, d0, ds0, p0, q0, hargs, rfl, rfl, h0, r0⟩ := trodAll_cons hA
  obtain ⟨v1, vs1, d1, ds1, p1, q1, rfl, rfl, rfl, h1, r1⟩ := trodAll_cons r0
  obtain ⟨v2, vs2, d2, ds2, p2, q2, rfl, rfl, rfl, h2, r2⟩ := trodAll_cons r1
  obtain ⟨rfl, rfl, rfl⟩ := trodAll_nil r2
  obtain rfl : args = #[v0, v1, v2] := by cases args; simp_all
  obtain ⟨rfl, rfl⟩ := trodVars_none hV
  have k0 := h0
  have lt0 : ∀ x ∈ p0, x.block < W.heap.size := by obtain ⟨m, hm⟩ := k0; exact DataW.trod_lt m _ _ _ hm
  obtain ⟨a0, n0, cap0, b0, m0, bap0, C0, L0, rfl, hv0, hcp0, hcm0⟩ := open_repoV (hval 0 25 v0 rfl rfl) h0
  obtain ⟨s1, rfl, rfl, rfl, hs1⟩ := Go.ChangeMaps.open_string Tryz.underlying9 (hval 1 9 v1 rfl rfl) h1
  obtain ⟨s2, rfl, rfl, rfl, hs2⟩ := Go.ChangeMaps.open_string Tryz.underlying9 (hval 2 9 v2 rfl rfl) h2
  clear hA0 hval0
  refine (workMerged_walk a0 n0 cap0 C0 b0 m0 bap0 L0 s1 s2 W hv0).mono fun e W' ⟨he, bel⟩ => ?_
  subst he
  exact ⟨_, rfl, _, _, _, [], _, [], hW', trodAll_mk1 (shut_bool Tryz.underlying4 _), (trodAll_cons_mk (Below.trod laidTry (by kernel_rfl) (of_decide_eq_true (by kernel_rfl)) k0 bel lt0) (trodAll_cons_mk (Go.ChangeMaps.shut_string Tryz.underlying9 hs1) (trodAll_cons_mk (Go.ChangeMaps.shut_string Tryz.underlying9 hs2) trodAll_mk0))), rfl, bel.frame _, fun h => by cases h⟩

theorem workMerged_holds : Rows.WorkMergedSaid :=
  OpenClaim.holds_of_wide 4 Tryz.f4 rfl rfl rfl rfl rfl rfl rfl ⟨rfl, rfl, rfl, rfl, rfl⟩ rfl rfl rfl rfl rfl (by kernel_rfl) Tryz.func4 (by kernel_rfl)
    (of_decide_eq_true (by kernel_rfl)) (by unfold Func.isWrapper; first | (rw [if_pos (by decide +kernel)]; kernel_rfl) | (rw [if_neg (by decide +kernel)]; exact ⟨rfl, rfl⟩))
    (fun os started H enc _ => workMerged_lifted os started H enc)
#print axioms workMerged_holds
end Go.Proofs.YtcgpgflnihjpiafGreat
