/- tree.Rows. -/
import Derived.Test.YtcgpgflnihjpiacTCheck
namespace Go.Proofs.Ytcgpgflnihjpiac
open Go.RowKit

theorem trows_ok (a : Option Addr) (n cap : Nat) (T : List (List (List (Int × Int)))) (w : World) (hT : TvS w a n cap T) (hbig : Big T) (hE : treeE T = 0) :
    Calls Try.prog 34 #[.slice a n cap] w fun e w' => ∃ v, e = .returned (.tuple #[v, .int .i64 0]) ∧ Own w' w.heap.size v (flat T) ∧ Below w.heap.size w w' := by
  have HT : Aside (TvS w a n cap T) := hT
  have H40 : Aside ((flat T).length ≤ 40) := ((M.chk_zero _).1 (treeE_ok hE).1).1
  have HBig : Aside (Big T) := hbig
  have HC := tcheck_any a n cap T w hT hbig
  rw [hE] at HC
  have HC1 : Aside (Calls Try.prog 17 #[.slice a n cap] w fun e w' => e = .returned (.int .i64 0) ∧ Below w.heap.size w w') := HC
  clear HC hT hbig hE
  go_enter Try.func34, Try.ntmps34
  go_wp2_with fail
  refine HC1.out.mono ?_
  rintro e w1 ⟨rfl, b1⟩
  go_wp2_with fail
  refine (ground_few a n cap T w1 (HT.out.below b1) HBig.out H40.out).mono ?_
  rintro e w2 ⟨va, vc, rfl, ho, hs, b2⟩
  have HO : Aside (Own w2 w.heap.size (.slice va (flat T).length vc) (flat T)) := ho.mono b1.size
  have hb := below2 b1 b2
  obtain ⟨v, hv⟩ : ∃ v, v = Value.slice va (flat T).length vc := ⟨_, rfl⟩
  rw [← hv] at HO ⊢
  clear ho hs hv
  go_wp2
  go_ret2
  exact ⟨_, rfl, HO.out, hb⟩
theorem trows_bad (a : Option Addr) (n cap : Nat) (T : List (List (List (Int × Int)))) (w : World) (hT : TvS w a n cap T) (hbig : Big T) (hE : treeE T = 1) :
    Calls Try.prog 34 #[.slice a n cap] w fun e w' => e = .returned (.tuple #[.slice none 0 0, .int .i64 1]) ∧ Below w.heap.size w w' := by
  have HC := tcheck_any a n cap T w hT hbig
  rw [hE] at HC
  have HC1 : Aside (Calls Try.prog 17 #[.slice a n cap] w fun e w' => e = .returned (.int .i64 1) ∧ Below w.heap.size w w') := HC
  clear HC hT hbig hE
  go_enter Try.func34, Try.ntmps34
  go_wp2_with fail
  refine HC1.out.mono ?_
  rintro e w1 ⟨rfl, b1⟩
  go_wp2
  go_ret2
  exact ⟨rfl, b1⟩

end Go.Proofs.Ytcgpgflnihjpiac
