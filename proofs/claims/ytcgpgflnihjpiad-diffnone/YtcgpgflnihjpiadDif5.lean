/- Of, Patch, Back of what was built; Find of right rows. -/
import Derived.Test.YtcgpgflnihjpiadDif4
import Derived.Test.YtcgpgflnihjpiadFindA
namespace Go.Proofs.Ytcgpgflnihjpiad
open Go.RowKit

theorem of_built (a1 a2 : Option Addr) (n1 n2 c1 c2 : Nat) (l m : List (Int × Int)) (w : World) (z1 : M.chk l = 0) (z2 : M.chk m = 0) (h1 : TvS w a1 n1 c1 (M.build l)) (h2 : TvS w a2 n2 c2 (M.build m)) :
    Calls Try.prog 11 #[.slice a1 n1 c1, .slice a2 n2 c2] w fun e w' => HandsC w w' (M.dif l m) 0 e := by
  have f := dof_any a1 a2 n1 n2 c1 c2 _ _ w h1 (build_big _ z1) h2 (build_big _ z2)
  rwa [(difV_built z1 z2).1, (difV_built z1 z2).2] at f
theorem patch_dif (a : Option Addr) (n c : Nat) (a2 : Option Addr) (n2 c2 : Nat) (l m : List (Int × Int)) (w : World) (z1 : M.chk l = 0) (z2 : M.chk m = 0) (h1 : Sl w a n c l) (h2 : Rc w a2 n2 (M.dif l m)) :
    Calls Try.prog 12 #[.slice a n c, .slice a2 n2 c2] w fun e w' => Hands w w' m 0 e := by
  have hn : n2 ≤ 9223372036854775807 := by have := M.difF_len l m 100; have h3 := h2.1; unfold M.dif at h3; omega
  have f := patch_any a n c l a2 n2 c2 _ w h1.1 h1.len h1.2.2.2 h2 hn
  rwa [(M.dif_patch z1 z2).1, (M.dif_patch z1 z2).2] at f
theorem back_dif (a2 : Option Addr) (n2 c2 : Nat) (l m : List (Int × Int)) (w : World) (z1 : M.chk l = 0) (z2 : M.chk m = 0) (h2 : Rc w a2 n2 (M.dif l m)) :
    Calls Try.prog 13 #[.slice a2 n2 c2] w fun e w' => HandsC w w' (M.dif m l) 0 e := by
  have hn : n2 ≤ 9223372036854775807 := by have := M.difF_len l m 100; have h3 := h2.1; unfold M.dif at h3; omega
  have f := back_any a2 n2 c2 _ w h2 hn
  rwa [(M.dif_back z1 z2).1, (M.dif_back z1 z2).2] at f

theorem find_has (aa : Option Addr) (nn cc : Nat) (ll : List (Int × Int)) (kk : Nat) (W : World) (hr : Rd W aa nn ll) (hn : nn ≤ 9223372036854775807) (hz : M.chk ll = 0) (hk : kk < 100) :
    Calls Try.prog 18 #[.slice aa nn cc, .int .i64 (kk : Int)] W fun e w' => e = .returned (.tuple #[.int .i64 (M.find kk ll), .int .i64 0]) ∧ Below W.heap.size W w' := by
  have H := find_any aa nn cc ll kk W hr hn
  have e := M.asked_ok hz (key := (kk : Int)) (by omega) (by omega)
  rw [M.findV_ok e, e] at H
  exact H
theorem Rc.ofPos {w : World} {a : Option Addr} {n : Nat} {l : List M.Chg} (h : Rc w a n l) (i : Nat) (hi : i < n) : ∃ b off, a = some ⟨b, off, none⟩ ∧ b < w.heap.size ∧ ∀ i, i < n → w.cell? ⟨b, off + i * 3, none⟩ = some (.int .i64 (l.getD i (0, 0, 0)).1) ∧ w.cell? ⟨b, off + i * 3 + 1, none⟩ = some (.int .i64 (l.getD i (0, 0, 0)).2.1) ∧ w.cell? ⟨b, off + i * 3 + 2, none⟩ = some (.int .i64 (l.getD i (0, 0, 0)).2.2) := by
  rcases h.cases with ⟨h0, _⟩ | ⟨b, off, e, _, _, hB, hc⟩
  · omega
  · exact ⟨b, off, e, hB, hc⟩
end Go.Proofs.Ytcgpgflnihjpiad
