/- edit.edited, Put, All. -/
import Derived.Test.YtcgpgflnihjpiacTRows
import Derived.Test.YtcgpgflnihjpiacEditC
import Derived.Test.YtcgpgflnihjpiacPut
namespace Go.Proofs.Ytcgpgflnihjpiac
open Go.RowKit Go.Shelf

/-- Changes in memory: the key and the new value of each. -/
def Ch (w : World) (a : Option Addr) (n : Nat) (E : List (Int × Int)) : Prop :=
  E.length = n ∧ (n = 0 ∨ ∃ b off, a = some ⟨b, off, none⟩ ∧ b < w.heap.size ∧ ∀ i, i < n → w.cell? ⟨b, off + i * 3, none⟩ = some (.int .i64 (E.getD i (0, 0)).1) ∧ (∃ o, w.cell? ⟨b, off + i * 3 + 1, none⟩ = some (.int .i64 o)) ∧ w.cell? ⟨b, off + i * 3 + 2, none⟩ = some (.int .i64 (E.getD i (0, 0)).2))

theorem edited_bad (a : Option Addr) (n cap : Nat) (T : List (List (List (Int × Int)))) (ea : Option Addr) (en ec : Nat) (w : World) (hT : TvS w a n cap T) (hbig : Big T) (hE : treeE T = 1) :
    Calls Try.prog 28 #[.slice a n cap, .slice ea en ec] w fun e w' => e = .returned (.tuple #[.slice none 0 0, .int .i64 1]) ∧ Below w.heap.size w w' := by
  have hb0 : Below w.heap.size w (w.alloc (.cells #[.slice a n cap] 22)) := (Below.refl _ _).alloc (Nat.le_refl _) _
  obtain ⟨W0, hW0⟩ : ∃ W0, W0 = w.alloc (.cells #[.slice a n cap] 22) := ⟨_, rfl⟩
  have HC := trows_bad a n cap T _ (hT.below hb0) hbig hE
  rw [← hW0] at HC hb0
  have HW0 : Aside (W0 = w.alloc (.cells #[.slice a n cap] 22)) := hW0
  have HC1 : Aside (Calls Try.prog 34 #[.slice a n cap] W0 fun e w' => e = .returned (.tuple #[.slice none 0 0, .int .i64 1]) ∧ Below W0.heap.size W0 w') := HC
  clear HC hT hbig hE hW0
  go_enter Try.func28, Try.ntmps28
  go_wp2_with fail
  rw [← HW0.out]
  refine HC1.out.mono ?_
  rintro e w1 ⟨rfl, b1⟩
  have q1 := below2 hb0 b1
  go_wp2
  go_ret2
  exact ⟨rfl, q1⟩

set_option maxRecDepth 100000 in
set_option maxHeartbeats 8000000 in
theorem edited_good (a : Option Addr) (n cap : Nat) (T : List (List (List (Int × Int)))) (ea : Option Addr) (en ec : Nat) (E : List (Int × Int)) (w : World) (hT : TvS w a n cap T) (hbig : Big T) (hE : treeE T = 0) (hCh : Ch w ea en E) (hen : en ≤ 9223372036854775807) :
    Calls Try.prog 28 #[.slice a n cap, .slice ea en ec] w fun e w' => ∃ v, e = .returned (.tuple #[v, .int .i64 (M.editsE (flat T) E)]) ∧ OwnT w' w.heap.size v (if M.editsE (flat T) E = 0 then M.build (M.editsV (flat T) E) else []) ∧ Below w.heap.size w w' := by
  have hb0 : Below w.heap.size w (w.alloc (.cells #[.slice a n cap] 22)) := (Below.refl _ _).alloc (Nat.le_refl _) _
  obtain ⟨W0, hW0⟩ : ∃ W0, W0 = w.alloc (.cells #[.slice a n cap] 22) := ⟨_, rfl⟩
  have HC := trows_ok a n cap T _ (hT.below hb0) hbig hE
  have hcp : W0.cell? ⟨w.heap.size, 0, none⟩ = some (.slice a n cap) := by rw [hW0]; simp [go_sem]
  have hs0 : w.heap.size < W0.heap.size := by rw [hW0]; simp
  have h0 := (treeE_ok hE).1
  obtain ⟨l, hl⟩ : ∃ l, l = flat T := ⟨_, rfl⟩
  rw [← hl] at HC h0 ⊢
  have HT0 : Aside (TvS W0 a n cap T) := by unfold Aside; rw [hW0]; exact hT.below hb0
  rw [← hW0] at HC hb0
  have HW0 : Aside (W0 = w.alloc (.cells #[.slice a n cap] 22)) := hW0
  have HR : Aside (Calls Try.prog 34 #[.slice a n cap] W0 fun e w' => ∃ xa xn xc, e = .returned (.tuple #[.slice xa xn xc, .int .i64 0]) ∧ Aside (Sl w' xa xn xc l) ∧ Below W0.heap.size W0 w') := by
    refine HC.mono ?_
    rintro e w' ⟨v, rfl, ho, hb⟩
    obtain ⟨xa, xc, rfl, hs⟩ := Own.sl ho
    exact ⟨xa, _, xc, rfl, hs, hb⟩
  have HCh : Aside (Ch w ea en E) := hCh
  have HE : Aside (treeE T = 0) := hE
  have HZ : Aside (M.chk l = 0) := h0
  obtain ⟨e0, he0⟩ : ∃ e0, e0 = M.editsE l E := ⟨_, rfl⟩
  obtain ⟨R, hRR⟩ : ∃ R, R = if M.editsE l E = 0 then M.build (M.editsV l E) else [] := ⟨_, rfl⟩
  rw [← hRR, ← he0]
  have HE0 : Aside (e0 = M.editsE l E) := he0
  have HRR : Aside (R = if M.editsE l E = 0 then M.build (M.editsV l E) else []) := hRR
  clear HC hT hbig hE hCh h0 hW0 hl he0 hRR
  go_enter Try.func28, Try.ntmps28
  go_wp2_with fail
  rw [← HW0.out]
  refine HR.out.mono ?_
  rintro e w1 ⟨xa, xn, xc, rfl, HX, b1⟩
  have q1 := below2 hb0 b1
  go_wp2
  go_loopg [6, 20] en (fun g vl ix ws => ∃ (i : Nat) (ya : Option Addr) (yn yc : Nat) (ll : List (Int × Int)), i + g = en ∧ ix = .int .i64 i ∧ vl = .slice ya yn yc ∧ Aside (Sl ws ya yn yc ll) ∧ Aside (M.chk ll = 0) ∧ Aside (M.editsE ll (E.drop i) = e0) ∧ Aside (M.editsV ll (E.drop i) = M.editsV l E) ∧ Below W0.heap.size W0 ws)
  case atStart => exact ⟨0, xa, xn, xc, l, by omega, rfl, rfl, HX, HZ, by unfold Aside; rw [HE0.out]; rfl, rfl, b1⟩
  case round =>
    obtain ⟨i, ya, yn, yc, ll, hig, rfl, rfl, HS, HK, HEE, HEV, hbel⟩ := hrel
    have hsz := hbel.size
    have hbw : Below w.heap.size w wr := below2 hb0 hbel
    by_cases hlt : i < en
    · obtain ⟨eb, eo, rfl, heB, hec⟩ : ∃ b off, ea = some ⟨b, off, none⟩ ∧ b < w.heap.size ∧ ∀ i, i < en → w.cell? ⟨b, off + i * 3, none⟩ = some (.int .i64 (E.getD i (0, 0)).1) ∧ (∃ o, w.cell? ⟨b, off + i * 3 + 1, none⟩ = some (.int .i64 o)) ∧ w.cell? ⟨b, off + i * 3 + 2, none⟩ = some (.int .i64 (E.getD i (0, 0)).2) := by
        rcases HCh.out.2 with e | h
        · omega
        · exact h
      obtain ⟨d1, ⟨o, d2⟩, d3⟩ := hec i hlt
      obtain ⟨kx, ky, hxy⟩ : ∃ kx ky, E.getD i (0, 0) = (kx, ky) := ⟨_, _, rfl⟩
      rw [hxy] at d1 d3
      have c1 : wr.cell? ⟨eb, eo + i * 3, none⟩ = some (.int .i64 kx) := (hbw.cell (p := ⟨eb, eo + i * 3, none⟩) heB).trans d1
      have c2 : wr.cell? ⟨eb, eo + i * 3 + 1, none⟩ = some (.int .i64 o) := (hbw.cell (p := ⟨eb, eo + i * 3 + 1, none⟩) heB).trans d2
      have c3 : wr.cell? ⟨eb, eo + i * 3 + 2, none⟩ = some (.int .i64 ky) := (hbw.cell (p := ⟨eb, eo + i * 3 + 2, none⟩) heB).trans d3
      have hii : (i : Int) < (en : Int) := by omega
      have hdr : E.drop i = (kx, ky) :: E.drop (i + 1) := by rw [M.drop_at E i (by rw [HCh.out.1]; exact hlt), hxy]
      have HDr : Aside (E.drop i = (kx, ky) :: E.drop (i + 1)) := hdr
      obtain ⟨W1, hW1⟩ : ∃ W1, W1 = wr.alloc (.cells #[.int .i64 kx, .int .i64 o, .int .i64 ky] 50) := ⟨_, rfl⟩
      have hb1 : Below wr.heap.size wr W1 := by rw [hW1]; exact (Below.refl _ _).alloc (Nat.le_refl _) _
      have HW1 : Aside (W1 = wr.alloc (.cells #[.int .i64 kx, .int .i64 o, .int .i64 ky] 50)) := hW1
      obtain ⟨pe, hpe⟩ : ∃ pe, pe = M.putE ll kx ky := ⟨_, rfl⟩
      have HPe : Aside (pe = M.putE ll kx ky) := hpe
      have HPut : Aside (Calls Try.prog 16 #[.slice ya yn yc, .int .i64 kx, .int .i64 ky] W1 fun e w' => ∃ za zn zc, e = .returned (.tuple #[.slice za zn zc, .int .i64 pe]) ∧ Hid (Sl w' za zn zc (M.putV ll kx ky)) ∧ Below W1.heap.size W1 w') := by
        unfold Aside
        rw [hpe]
        have hs := HS.out.below hb1
        refine (put_any ya yn yc ll kx ky W1 hs.1 hs.2.1 hs.2.2.1 hs.2.2.2).mono ?_
        rintro e w' ⟨za, zn, zc, rfl, r1, r2, r3, r4, r5⟩
        exact ⟨za, zn, zc, rfl, ⟨r1, r2, r3, r4⟩, r5⟩
      clear d1 d2 d3 hxy hec hdr hW1 hpe
      by_cases hp0 : pe = 0
      · have hpb : (pe != 0) = false := by simp [hp0]
        have hput : M.putE ll kx ky = 0 := by rw [← HPe.out]; exact hp0
        have HEE2 : Aside (M.editsE (M.put kx ky ll) (E.drop (i + 1)) = e0) := by
          have h := HEE.out
          rw [HDr.out, M.editsE, if_neg (by show ¬ M.putE ll kx ky ≠ 0; omega)] at h
          exact h
        have HEV2 : Aside (M.editsV (M.put kx ky ll) (E.drop (i + 1)) = M.editsV l E) := by
          have h := HEV.out
          rw [HDr.out, M.editsV] at h
          exact h
        have HK2 : Aside (M.chk (M.put kx ky ll) = 0) := M.put_chk hput
        have HPV : Aside (M.putV ll kx ky = M.put kx ky ll) := M.putV_ok hput
        clear hp0 hput
        go_wp2_with fail
        rw [← HW1.out]
        refine HPut.out.mono ?_
        rintro e w3 ⟨za, zn, zc, rfl, hz, b3⟩
        have HS3 : Aside (Sl w3 za zn zc (M.put kx ky ll)) := by unfold Aside; rw [← HPV.out]; exact hz.out
        have hb3 : Below W0.heap.size W0 w3 := below2 (below2 hbel hb1) b3
        clear hz b3
        go_wp2
        go_roundg (gk - 1)
        case measure => omega
        case rel => exact ⟨i + 1, za, zn, zc, M.put kx ky ll, by omega, by go_num, rfl, HS3, HK2, HEE2, HEV2, hb3⟩
      · have hpb : (pe != 0) = true := by simp [hp0]
        have HPE0 : Aside (pe = e0) := by
          have h := HEE.out
          rw [HDr.out, M.editsE, if_pos (by show M.putE ll kx ky ≠ 0; rw [← HPe.out]; exact hp0)] at h
          unfold Aside
          rw [HPe.out]; exact h
        have HRn : Aside (R = []) := by
          unfold Aside
          rw [HRR.out, if_neg (by rw [← HE0.out, ← HPE0.out]; exact hp0)]
        clear hp0
        go_wp2_with fail
        rw [← HW1.out]
        refine HPut.out.mono ?_
        rintro e w3 ⟨za, zn, zc, rfl, hz, b3⟩
        have hb3 : Below w.heap.size w w3 := below2 hbw (below2 hb1 b3)
        clear hz b3
        go_wp2
        go_ret2
        exact ⟨_, by rw [HPE0.out]; rfl, by rw [HRn.out]; exact OwnT.nil _ _, hb3⟩
    · obtain rfl : i = en := by omega
      have hnil : E.drop i = [] := List.drop_eq_nil_of_le (by rw [HCh.out.1]; exact Nat.le_refl _)
      have he0 : e0 = 0 := by have h := HEE.out; rw [hnil] at h; exact h.symm
      have HEZ : Aside (e0 = 0) := he0
      have HLL : Aside (M.build ll = R) := by
        unfold Aside
        have h := HEV.out
        rw [hnil] at h
        rw [HRR.out, if_pos (by rw [← HE0.out]; exact he0), ← h]; rfl
      have hpw : wr.cell? ⟨w.heap.size, 0, none⟩ = some (.slice a n cap) := (hbel.cell (p := ⟨w.heap.size, 0, none⟩) hs0).trans hcp
      have HOf : Aside (Calls Try.prog 37 #[.slice ya yn yc, .func (.func 56) #[] #[.pointer (some ⟨w.heap.size, 0, none⟩)]] wr fun e w' => ∃ v, e = .returned (.tuple #[v, .int .i64 0]) ∧ OwnT w' wr.heap.size v (M.build ll) ∧ Below wr.heap.size wr w') :=
        of_any 56 [.pointer (some ⟨w.heap.size, 0, none⟩)] (enters_of Try.func56 (by kernel_rfl) rfl) ya yn yc ll wr (edit_cuts a n cap w.heap.size T wr (HT0.out.below hbel) HE.out hpw (by omega)) HS.out HK.out
      clear hnil he0
      go_wp2_with fail
      refine HOf.out.mono ?_
      rintro e w3 ⟨v, rfl, ho, b3⟩
      have HO3 : Aside (OwnT w3 w.heap.size v R) := by unfold Aside; rw [← HLL.out]; exact ho.mono hbw.size
      have q3 := below2 hbw b3
      clear ho
      go_wp2
      go_ret2
      exact ⟨_, by rw [HEZ.out]; rfl, HO3.out, q3⟩
end Go.Proofs.Ytcgpgflnihjpiac
