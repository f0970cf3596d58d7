/- The reference on commits: AboveOf, BasesOf. -/
import Derived.Test.YtcgpgflnihjpiafGreatBLogRecovers09
import Derived.Test.YtcgpgflnihjpiafGreatBLogRecovers13
import Derived.Test.YtcgpgflnihjpiafGreatBLogRecovers14
import Derived.Test.YtcgpgflnihjpiafGreatBLogRecovers15
namespace Go.Proofs.YtcgpgflnihjpiafGreat
namespace M
/-- The reference's question: is k a base, the s behind it looked at? -/
def isF (L : List Com) (a b k : Nat) : Nat → Bool
  | 0 => both L a b k
  | s + 1 => isF L a b k s && !(both L a b (k + 1 + s) && (above L (k + 1 + s)).getD k false)
theorem isF_iff (L : List Com) (a b k s : Nat) : isF L a b k s = true ↔ both L a b k = true ∧ ∀ i, k < i → i < k + 1 + s → both L a b i = true → (above L i).getD k false = false := by
  induction s with
  | zero =>
    rw [isF]
    constructor
    · intro h; exact ⟨h, fun i h1 h2 => by omega⟩
    · exact fun h => h.1
  | succ s ih =>
    rw [isF, Bool.and_eq_true, ih]
    constructor
    · rintro ⟨⟨h1, h2⟩, h3⟩
      refine ⟨h1, fun i g1 g2 g3 => ?_⟩
      by_cases e : i = k + 1 + s
      · subst e; rw [g3] at h3; simpa using h3
      · exact h2 i g1 (by omega) g3
    · rintro ⟨h1, h2⟩
      refine ⟨⟨h1, fun i g1 g2 g3 => h2 i g1 (by omega) g3⟩, ?_⟩
      have := h2 (k + 1 + s) (by omega) (by omega)
      cases h : both L a b (k + 1 + s)
      · rfl
      · rw [this h]; rfl
theorem isF_base {L : List Com} (R : Right L) {a b : Nat} (ha : a < L.length) (hb : b < L.length) (k : Nat) (hk : k < L.length) : isF L a b k (L.length - (k + 1)) = isBase L a b k := by
  rw [Bool.eq_iff_iff, isF_iff, isBase_iff R ha hb]
  refine and_congr_right fun _ => ?_
  constructor
  · intro h i h1 h2; exact h i h1 (by omega)
  · intro h i h1 h2; exact h i h1 (by omega)
theorem mark_more (m : List Bool) (ps : List Int) (h : ∀ p ∈ ps, p.toNat < m.length) (j : Nat) (hj : m.getD j false = true) : (mark m ps).getD j false = true := (mark_get m ps h j).2 (Or.inl hj)
end M
open Go.RowKit

set_option maxHeartbeats 8000000 in
theorem aboveOf_some (b off n cap : Nat) (L : List M.Com) (c : Nat) (w : World) (hn : n ≤ 14) (hcn : c < n) (hl : L.length = n) (hR : M.Right L) (hB : b < w.heap.size)
    (hc : ∀ i, i < n → ∃ a1 n1 c1 a2 n2 c2, w.cell? ⟨b, off + i * 2, none⟩ = some (.slice a1 n1 c1) ∧ w.cell? ⟨b, off + i * 2 + 1, none⟩ = some (.slice a2 n2 c2) ∧ Rd w a1 n1 (L.getD i ([], [])).1 ∧ Ri w a2 n2 (L.getD i ([], [])).2 ∧ n1 ≤ 9223372036854775807 ∧ n2 ≤ 9223372036854775807) :
    Calls Tryz.prog 104 #[.slice (some ⟨b, off, none⟩) n cap, .int .i64 c] w fun e w' => e = .returned (.slice (some ⟨w.heap.size, 0, none⟩) n n) ∧ Bo w' w.heap.size (M.above L c) ∧ Below w.heap.size w w' := by
  have HC : Aside (∀ i, i < n → ∃ a1 n1 c1 a2 n2 c2, w.cell? ⟨b, off + i * 2, none⟩ = some (.slice a1 n1 c1) ∧ w.cell? ⟨b, off + i * 2 + 1, none⟩ = some (.slice a2 n2 c2) ∧ Rd w a1 n1 (L.getD i ([], [])).1 ∧ Ri w a2 n2 (L.getD i ([], [])).2 ∧ n1 ≤ 9223372036854775807 ∧ n2 ≤ 9223372036854775807) := hc
  have HL : Aside (L.length = n) := hl
  have HRt : Aside (M.Right L) := hR
  have hmk := make_bool n (by omega)
  obtain ⟨Z, hZ⟩ : ∃ Z, Z = ((List.replicate n false).map Value.bool).toArray := ⟨_, rfl⟩
  have hZc : Z[c]? = some (.bool false) := by rw [hZ]; simp [hcn]
  rw [← hZ] at hmk
  have B0 : Bo (w.alloc (.cells Z 4)) w.heap.size (List.replicate n false) := by unfold Bo; rw [heap_alloc_new, hZ]
  have B1 : Aside (Bo (w.alloc (.cells (Z.setIfInBounds c (.bool true)) 4)) w.heap.size ((List.replicate n false).set c true)) := by unfold Aside Bo; rw [heap_alloc_new, hZ, List.setIfInBounds_toArray, List.map_set]
  have c1 : (w.alloc (.cells Z 4)).cell? ⟨w.heap.size, c, none⟩ = some (.bool false) := by rw [cell_of_row _ _ _ _ _ _ B0]; rw [← hZ]; exact hZc
  have f1 := B0.frozen c
  clear hc hl hR hZ B0
  go_enter Tryz.func104, Tryz.ntmps104
  go_wp2
  go_loopg [6] (c + 1) (fun gg i wr => ∃ (m : List Bool), ((gg = 0 ∧ i = .int .i64 (-1)) ∨ (∃ j : Nat, j + 1 = gg ∧ i = .int .i64 j)) ∧ gg ≤ c + 1 ∧ Aside (m.length = n) ∧ Aside (Bo wr w.heap.size m) ∧ Aside (M.aboveF L gg m = M.above L c) ∧ Below w.heap.size w wr)
  case atStart => exact ⟨(List.replicate n false).set c true, Or.inr ⟨c, rfl, rfl⟩, Nat.le_refl _, by simp [Aside], B1, by unfold Aside M.above; rw [HL.out], (Below.refl _ _).alloc (Nat.le_refl _) _⟩
  case round =>
    obtain ⟨m, hi, hle, HML, HB, HA, hbel⟩ := hrel
    rcases hi with ⟨rfl, rfl⟩ | ⟨j, rfl, rfl⟩
    · have HB' : Aside (Bo wr w.heap.size (M.above L c)) := by have h := HA.out; rw [M.aboveF] at h; rw [← h]; exact HB
      go_wp2
      go_ret
      exact ⟨rfl, HB'.out, hbel⟩
    · obtain ⟨a1, n1, k1, a2, n2, k2, q1, q2, r1, r2, m1, m2⟩ := HC.out j (by omega)
      have c0 : wr.cell? ⟨b, off + j * 2 + 1, none⟩ = some (.slice a2 n2 k2) := (hbel.cell (p := ⟨b, off + j * 2 + 1, none⟩) hB).trans q2
      have hjn : j < n := by omega
      have c1 := HB.out.cell (i := j) (by rw [HML.out]; exact hjn)
      have hRj := HRt.out j (by rw [HL.out]; exact hjn)
      obtain ⟨ps, hps⟩ : ∃ ps, (L.getD j ([], [])).2 = ps := ⟨_, rfl⟩
      rw [hps] at r2 hRj
      have hA := HA.out
      rw [M.aboveF, hps] at hA
      have HA2 : Aside (M.aboveF L j (if m.getD j false = true then M.mark m ps else m) = M.above L c) := hA
      have HR2 : Aside (Ri w a2 n2 ps) := r2
      have hn2 : n2 ≤ 2 := by rw [← r2.1]; exact hRj.2.1
      have HPr : Aside (∀ p ∈ ps, 0 ≤ p ∧ p < (j : Int)) := hRj.2.2
      have Q2 : Aside (w.cell? ⟨b, off + j * 2 + 1, none⟩ = some (.slice a2 n2 k2)) := q2
      obtain ⟨t, ht⟩ : ∃ t, m.getD j false = t := ⟨_, rfl⟩
      rw [ht] at c1
      have HT : Aside (m.getD j false = t) := ht
      clear ht hA q1 q2 r1 r2 hRj HA hps
      have HJ : Aside (∀ gg : Nat, gg = j → (gg = 0 ∧ Value.int .i64 ((j : Int) - 1) = .int .i64 (-1)) ∨ (∃ j' : Nat, j' + 1 = gg ∧ Value.int .i64 ((j : Int) - 1) = .int .i64 j')) := fun gg e => by
        subst e
        cases gg with
        | zero => exact Or.inl ⟨rfl, rfl⟩
        | succ j' => exact Or.inr ⟨j', rfl, by congr 1; omega⟩
      cases t with
      | true =>
        have HK0 : Aside (Bo wr w.heap.size (M.mark m (ps.take 0))) := HB
        go_wp2
        go_loopg [7] n2 (fun g2 i ws => ∃ (k : Nat), k + g2 = n2 ∧ i = .int .i64 k ∧ Aside (Bo ws w.heap.size (M.mark m (ps.take k))) ∧ Below w.heap.size w ws)
        case atStart => exact ⟨0, by omega, rfl, HK0, hbel⟩
        case round =>
          obtain ⟨k, hk, rfl, HBk, hbk⟩ := hrel
          have ck : wr.cell? ⟨b, off + j * 2 + 1, none⟩ = some (.slice a2 n2 k2) := (hbk.cell (p := ⟨b, off + j * 2 + 1, none⟩) hB).trans Q2.out
          have ml : (M.mark m (ps.take k)).length = n := by rw [M.mark_len]; exact HML.out
          have hmj : (M.mark m (ps.take k)).getD j false = true := M.mark_more m _ (fun p hp => by have := HPr.out p (List.mem_of_mem_take hp); rw [HML.out]; omega) j HT.out
          have cj := HBk.out.cell (i := j) (by rw [ml]; exact hjn)
          rw [hmj] at cj
          clear hmj
          by_cases hkl : k < n2
          · obtain ⟨pb, po, rfl, hpB, hpc⟩ : ∃ pb po, a2 = some ⟨pb, po, none⟩ ∧ pb < w.heap.size ∧ ∀ i, i < n2 → w.cell? ⟨pb, po + i, none⟩ = some (.int .i64 (ps.getD i 0)) := by
              rcases HR2.out.cases with ⟨h0, _⟩ | ⟨pb, po, e, _, _, hpB, hpc⟩
              · omega
              · exact ⟨pb, po, e, hpB, hpc⟩
            have hmem : ps.getD k 0 ∈ ps := by have h2 := HR2.out.1; simp [List.getD, h2, hkl]
            have hr := HPr.out _ hmem
            obtain ⟨x, hx⟩ : ∃ x : Nat, ps.getD k 0 = (x : Int) := ⟨(ps.getD k 0).toNat, by omega⟩
            have cx : wr.cell? ⟨pb, po + k, none⟩ = some (.int .i64 x) := by rw [hbk.cell (p := ⟨pb, po + k, none⟩) hpB, hpc k hkl, hx]
            rw [hx] at hr
            have hxn : x < n := by omega
            have cs := HBk.out.cell (i := x) (by rw [ml]; exact hxn)
            obtain ⟨tt, htt⟩ : ∃ tt, (M.mark m (ps.take k)).getD x false = tt := ⟨_, rfl⟩
            rw [htt] at cs
            have fs := HBk.out.frozen x
            have HBk' : Aside (Bo (wr.setCell ⟨w.heap.size, x, none⟩ (.bool true)) w.heap.size (M.mark m (ps.take (k + 1)))) := by
              unfold Aside
              rw [M.mark_take m ps k (by rw [HR2.out.1]; exact hkl), hx]
              exact HBk.out.set x true
            have hbk' := hbk.setCell (p := ⟨w.heap.size, x, none⟩) (Nat.le_refl _) (.bool true)
            have hki : (k : Int) < (n2 : Int) := by omega
            clear hx htt ml hmem hr hpc
            go_wp2
            go_roundg (gk - 1)
            case measure => omega
            case rel => exact ⟨k + 1, by omega, by go_num, HBk', hbk'⟩
          · have e : ps.take k = ps := List.take_of_length_le (by rw [HR2.out.1]; omega)
            have HB' : Aside (Bo wr w.heap.size (M.mark m ps)) := by have := HBk.out; rw [e] at this; exact this
            have hki : decide ((k : Int) < (n2 : Int)) = false := by simp; omega
            clear e ml
            go_wp2
            go_roundg j
            case measure => omega
            case rel => exact ⟨M.mark m ps, HJ.out _ rfl, by omega, by unfold Aside; rw [M.mark_len]; exact HML.out, HB', by have h := HA2.out; rw [HT.out, if_pos rfl] at h; exact h, hbk⟩
      | false =>
        go_wp2
        refine wp_loop_rounds 1 ?_
        rw [rounds_succ]
        by_cases h0 : n2 = 0
        · subst h0
          go_wp2
          go_roundg j
          case measure => omega
          case rel => exact ⟨m, HJ.out _ rfl, by omega, HML, HB, by have h := HA2.out; rw [HT.out, if_neg (by simp)] at h; exact h, hbel⟩
        · have hpos : (0 : Int) < (n2 : Int) := by omega
          go_wp2
          go_roundg j
          case measure => omega
          case rel => exact ⟨m, HJ.out _ rfl, by omega, HML, HB, by have h := HA2.out; rw [HT.out, if_neg (by simp)] at h; exact h, hbel⟩

theorem aboveOf_any (a : Option Addr) (n cap : Nat) (L : List M.Com) (c : Nat) (w : World) (h : Cm w a n L) (hz : M.dchk L = 0) (hcn : c < n) :
    Calls Tryz.prog 104 #[.slice a n cap, .int .i64 c] w fun e w' => e = .returned (.slice (some ⟨w.heap.size, 0, none⟩) n n) ∧ Bo w' w.heap.size (M.above L c) ∧ Below w.heap.size w w' := by
  have hR := M.dchk_zero hz
  rcases h.cases with ⟨rfl, rfl⟩ | ⟨b, off, rfl, hn, hl, hB, hc⟩
  · omega
  · exact aboveOf_some b off n cap L c w (by rw [← hl]; exact hR.1) hcn hl hR.2 hB hc
end Go.Proofs.YtcgpgflnihjpiafGreat

/- The reference's BasesOf. -/
namespace Go.Proofs.YtcgpgflnihjpiafGreat
open Go.RowKit

set_option maxHeartbeats 16000000 in
theorem basesOf_any (a : Option Addr) (n cap : Nat) (L : List M.Com) (x y : Nat) (w : World) (h : Cm w a n L) (hz : M.dchk L = 0) (hx : x < n) (hy : y < n) :
    Calls Tryz.prog 105 #[.slice a n cap, .int .i64 x, .int .i64 y] w fun e w' => ∃ v, e = .returned v ∧ OwnI w' w.heap.size v (M.bases L x y) ∧ Below w.heap.size w w' := by
  have hR := M.dchk_zero hz
  have hn : n ≤ 14 := by rw [← h.1]; exact hR.1
  have HCm : Aside (Cm w a n L) := h
  have HL : Aside (L.length = n) := h.1
  have HA : Aside (∀ W c, Below w.heap.size w W → c < n → Calls Tryz.prog 104 #[.slice a n cap, .int .i64 ((c : Nat) : Int)] W fun e w' => e = .returned (.slice (some ⟨W.heap.size, 0, none⟩) n n) ∧ Bo w' W.heap.size (M.above L c) ∧ Below W.heap.size W w') := fun W c hW hc => aboveOf_any a n cap L c W (h.below hW (Nat.le_refl _)) hz hc
  have HBa : Aside (∀ k, k < n → M.isF L x y k (n - (k + 1)) = M.isBase L x y k) := fun k hk => by
    have e := h.1
    have := M.isF_base hR.2 (a := x) (b := y) (by omega) (by omega) k (by omega)
    rw [e] at this; exact this
  clear h hz hR
  go_enter Tryz.func105, Tryz.ntmps105
  go_wp2_with fail
  refine (HA.out w x (Below.refl _ _) hx).mono ?_
  rintro e w1 ⟨rfl, bx, hb1⟩
  go_wp2_with fail
  refine (HA.out w1 y hb1 hy).mono ?_
  rintro e w2 ⟨rfl, by', hb2⟩
  obtain ⟨X, hX⟩ : ∃ X, X = w.heap.size := ⟨_, rfl⟩
  obtain ⟨Y, hY⟩ : ∃ Y, Y = w1.heap.size := ⟨_, rfl⟩
  have hXl := bx.lt
  have hYl := by'.lt
  have HX : Aside (Bo w2 X (M.above L x)) := by rw [hX]; exact bx.below hb2 hXl
  have HY : Aside (Bo w2 Y (M.above L y)) := by rw [hY]; exact by'
  have hXB := HX.out.lt
  have hYB := HY.out.lt
  have hbw2 : Below w.heap.size w w2 := hb1.trans (hb2.mono hb1.size)
  have HXE : Aside (X = w.heap.size) := hX
  have HYE : Aside (Y = w1.heap.size) := hY
  have hs2 := hbw2.size
  clear bx by' hb2 hX hY hXl hYl
  rw [← HXE.out, ← HYE.out]
  go_wp2
  go_loopg [9, 10] n (fun g v i wr => ∃ k : Nat, k + g = n ∧ i = .int .i64 k ∧ Aside (OwnI wr w2.heap.size v (M.sel (M.isBase L x y) k)) ∧ Below w2.heap.size w2 wr)
  case atStart => exact ⟨0, by omega, rfl, OwnI.nil _ _, Below.refl _ _⟩
  case round =>
    obtain ⟨k, hk, rfl, HO, hbel⟩ := hrel
    by_cases hlt : k < n
    · have hki : (k : Int) < (n : Int) := by omega
      have cx := (HX.out.below hbel hXB).cell (i := k) (by rw [M.above_len, HL.out]; exact hlt)
      have cy := (HY.out.below hbel hYB).cell (i := k) (by rw [M.above_len, HL.out]; exact hlt)
      obtain ⟨t1, ht1⟩ : ∃ t, (M.above L x).getD k false = t := ⟨_, rfl⟩
      obtain ⟨t2, ht2⟩ : ∃ t, (M.above L y).getD k false = t := ⟨_, rfl⟩
      rw [ht1] at cx
      rw [ht2] at cy
      have HB0 : Aside (M.both L x y k = (t1 && t2)) := by unfold Aside M.both; rw [ht1, ht2]
      obtain ⟨uo, huo⟩ : ∃ uo, uo = u9 := ⟨_, rfl⟩
      have HUO : Aside (uo = u9) := huo
      have HO9 : Aside (OwnI wr w2.heap.size u9 (M.sel (M.isBase L x y) k)) := HO
      have hbel0 := hbel
      clear ht1 ht2 huo HO
      cases t1 <;> cases t2
      all_goals (
        go_wp2
        go_loopg [11, 12] (n - (k + 1)) (fun g2 vis vi ws => ∃ (s i : Nat), Aside (i = k + 1 + s) ∧ Aside (s + g2 = n - (k + 1)) ∧ vis = .bool (M.isF L x y k s) ∧ vi = .int .i64 i ∧ Aside (OwnI ws w2.heap.size u9 (M.sel (M.isBase L x y) k)) ∧ Below w2.heap.size w2 ws)
        case atStart => exact ⟨0, k + 1, rfl, by unfold Aside; omega, by rw [M.isF, HB0.out]; rfl, by go_num, HO9, hbel0⟩
        case round =>
          obtain ⟨s, i, HI, HS, rfl, rfl, HOs, hbs⟩ := hrel
          obtain ⟨q, hq⟩ : ∃ q, M.isF L x y k s = q := ⟨_, rfl⟩
          rw [hq]
          have HQ : Aside (M.isF L x y k s = q) := hq
          have h1 := HI.out
          have h2 := HS.out
          by_cases hil : i < n
          · have hii : (i : Int) < (n : Int) := by omega
            have hgk : 0 < gk := by omega
            have ei := (HX.out.below hbs hXB).cell (i := i) (by rw [M.above_len, HL.out]; exact hil)
            have ej := (HY.out.below hbs hYB).cell (i := i) (by rw [M.above_len, HL.out]; exact hil)
            obtain ⟨t3, ht3⟩ : ∃ t, (M.above L x).getD i false = t := ⟨_, rfl⟩
            obtain ⟨t4, ht4⟩ : ∃ t, (M.above L y).getD i false = t := ⟨_, rfl⟩
            rw [ht3] at ei
            rw [ht4] at ej
            obtain ⟨t5, ht5⟩ : ∃ t, (M.above L i).getD k false = t := ⟨_, rfl⟩
            have HNx : Aside (M.isF L x y k (s + 1) = (q && !((t3 && t4) && t5))) := by
              unfold Aside
              rw [M.isF, HQ.out, ← HI.out, ht5]
              unfold M.both
              rw [ht3, ht4]
            have HT5 : Aside ((M.above L i).getD k false = t5) := ht5
            have hinc : Aside (i + 1 = k + 1 + (s + 1)) := by unfold Aside; omega
            have hdec : Aside (s + 1 + (gk - 1) = n - (k + 1)) := by unfold Aside; omega
            have HCall := HA.out wr i (hbw2.trans (hbs.mono hs2)) hil
            have HCC : Hid (Calls Tryz.prog 104 #[.slice a n cap, .int .i64 ((i : Nat) : Int)] wr fun e w' => e = .returned (.slice (some ⟨wr.heap.size, 0, none⟩) n n) ∧ Bo w' wr.heap.size (M.above L i) ∧ Below wr.heap.size wr w') := HCall
            clear HCall ht3 ht4 ht5 hq h1 h2
            cases t3 with
            | false =>
              go_wp2
              go_roundg (gk - 1)
              case measure => omega
              case rel => exact ⟨s + 1, i + 1, hinc, hdec, by rw [HNx.out]; simp, by go_num, HOs, hbs⟩
            | true =>
              cases t4 with
              | false =>
                go_wp2
                go_roundg (gk - 1)
                case measure => omega
                case rel => exact ⟨s + 1, i + 1, hinc, hdec, by rw [HNx.out]; simp, by go_num, HOs, hbs⟩
              | true =>
                go_wp2_with fail
                refine HCC.out.mono ?_
                rintro e w5 ⟨rfl, b5, hb5⟩
                have c5 := b5.cell (i := k) (by rw [M.above_len, HL.out]; exact hlt)
                rw [HT5.out] at c5
                have HOs5 : Aside (OwnI w5 w2.heap.size u9 (M.sel (M.isBase L x y) k)) := HOs.out.below hb5
                have hbs5 : Below w2.heap.size w2 w5 := hbs.trans (hb5.mono hbs.size)
                clear b5 hb5 HCC
                cases t5 with
                | true =>
                  go_wp2
                  go_roundg (gk - 1)
                  case measure => omega
                  case rel => exact ⟨s + 1, i + 1, hinc, hdec, by rw [HNx.out]; simp, by go_num, HOs5, hbs5⟩
                | false =>
                  go_wp2
                  go_roundg (gk - 1)
                  case measure => omega
                  case rel => exact ⟨s + 1, i + 1, hinc, hdec, by rw [HNx.out]; simp, by go_num, HOs5, hbs5⟩
          · have hse : s = n - (k + 1) := by omega
            have hid : decide ((i : Int) < (n : Int)) = false := by simp; omega
            have HQ2 : Aside (M.isBase L x y k = q) := by unfold Aside; rw [← HBa.out k hlt, ← hse]; exact HQ.out
            have hsz := hbs.size
            clear hse hq h1 h2
            cases q with
            | true =>
              have HSl : Aside (M.sel (M.isBase L x y) (k + 1) = M.sel (M.isBase L x y) k ++ [(k : Int)]) := by unfold Aside; rw [M.sel, if_pos HQ2.out]
              have HO1 : Aside (OwnI (wr.alloc (.cells #[.int .i64 (k : Int)] 3)) w2.heap.size u9 (M.sel (M.isBase L x y) k)) := World.ownsRow.alloc HOs.out _
              have HLe : Aside ((M.sel (M.isBase L x y) k).length + 1 ≤ 1000000) := by have := M.sel_len (M.isBase L x y) k; unfold Aside; omega
              go_wp2_with (at_builtin; refine append_ri rfl _ _ rfl w2.heap.size _ (M.sel (M.isBase L x y) k) rfl HO1.out wr.heap.size 1 1 [(k : Int)] rfl rfl (ri_one wr _) HLe.out (by simp; omega) ?_)
              intro v' w' ho' hb4 _
              have HO' : Aside (OwnI w' w2.heap.size v' (M.sel (M.isBase L x y) (k + 1))) := by unfold Aside; rw [HSl.out]; exact ho'
              have hb5 : Below w2.heap.size w2 w' := (hbs.alloc hbs.size _).trans hb4
              clear ho' hb4 HO1
              go_wp2
              go_roundg (n - (k + 1))
              case measure => omega
              case rel => exact ⟨k + 1, by omega, by go_num, HO', hb5⟩
            | false =>
              have HO' : Aside (OwnI wr w2.heap.size u9 (M.sel (M.isBase L x y) (k + 1))) := by unfold Aside; rw [M.sel, if_neg (by rw [HQ2.out]; simp)]; exact HOs.out
              go_wp2
              go_roundg (n - (k + 1))
              case measure => omega
              case rel => exact ⟨k + 1, by omega, by go_num, HO', hbs⟩)
    · obtain rfl : k = n := by omega
      have HO' : Aside (OwnI wr w2.heap.size u9 (M.bases L x y)) := by unfold Aside M.bases; rw [HL.out]; exact HO.out
      go_wp2
      go_ret
      rw [HXE.out]
      exact ⟨_, rfl, HO'.out.mono hs2, hbw2.trans (hbel.mono hs2)⟩
end Go.Proofs.YtcgpgflnihjpiafGreat

/- The reference's JoinOf. -/
namespace Go.Proofs.YtcgpgflnihjpiafGreat
open Go.RowKit Go.Shelf Go.Maps

theorem M.join_one {C : List M.Com} {H : List M.Hd} {s t : ByteArray} (h : M.hchk C H s ≠ 0) : M.joinE C H s t = M.hchk C H s ∧ M.joinK C H s t = [] := by
  have e : M.openE C H [s, t] = M.hchk C H s := by simp [M.openE, h]
  unfold M.joinE M.joinK
  rw [e, if_pos h, if_pos h]
  exact ⟨rfl, rfl⟩
theorem M.join_other {C : List M.Com} {H : List M.Hd} {s t : ByteArray} (h1 : M.hchk C H s = 0) (h : M.hchk C H t ≠ 0) : M.joinE C H s t = M.hchk C H t ∧ M.joinK C H s t = [] := by
  have e : M.openE C H [s, t] = M.hchk C H t := by simp [M.openE, h1, h]
  unfold M.joinE M.joinK
  rw [e, if_pos h, if_pos h]
  exact ⟨rfl, rfl⟩
theorem M.join_both {C : List M.Com} {H : List M.Hd} {s t : ByteArray} {x y : Nat} (h1 : M.hchk C H s = 0) (h2 : M.hchk C H t = 0) (hx : M.hat C H s = (x : Int)) (hy : M.hat C H t = (y : Int)) : M.joinE C H s t = M.joinAt C x y ∧ M.joinK C H s t = M.keysAt C x y := by
  have e : M.openE C H [s, t] = 0 := by simp [M.openE, h1, h2]
  exact M.joinE_at e hx hy
theorem M.bases_in (C : List M.Com) (x n : Nat) : (∀ v ∈ M.bases C x n, 0 ≤ v ∧ v < (C.length : Int)) ∧ (M.bases C x n).length ≤ C.length := by
  refine ⟨fun v hv => ?_, M.sel_len _ _⟩
  unfold M.bases at hv
  obtain ⟨k, hk, _, rfl⟩ := (M.mem_sel _ _ _).1 hv
  omega

set_option maxRecDepth 100000 in
set_option maxHeartbeats 16000000 in
theorem joinOf_any (a : Option Addr) (n cap : Nat) (C : List M.Com) (a2 : Option Addr) (n2 cap2 : Nat) (H : List M.Hd) (s t : ByteArray) (w : World) (hV : RepoV w a n cap C a2 n2 cap2 H) :
    Calls Tryz.prog 58 #[.agg #[.slice a n cap, .slice a2 n2 cap2], .string s, .string t] w fun e w' => ∃ v kb kn kc, e = .returned (.tuple #[v, .slice kb kn kc, .int .i64 (M.joinE C H s t)]) ∧ RepoOwn w' w.heap.size v (M.joinC C H s t) (M.joinH C H s t) ∧ Ri w' kb kn (M.joinK C H s t) ∧ kn ≤ kc ∧ kc ≤ maxLen ∧ Below w.heap.size w w' := by
  obtain ⟨p, hp⟩ : ∃ p, p = w.heap.size := ⟨_, rfl⟩
  obtain ⟨R, hR⟩ : ∃ R, R = p + 1 := ⟨_, rfl⟩
  have I0 := InBox.new w a n cap C a2 n2 cap2 H hV.cm hV.hs
  obtain ⟨W, hW⟩ : ∃ W, W = (w.alloc (.cells #[.slice a n cap, .slice a2 n2 cap2] 25)).alloc (.cells #[.slice none 0 0, .slice none 0 0] 25) := ⟨_, rfl⟩
  have hb0 : Below (w.alloc (.cells #[.slice a n cap, .slice a2 n2 cap2] 25)).heap.size (w.alloc (.cells #[.slice a n cap, .slice a2 n2 cap2] 25)) W := by rw [hW]; exact (Below.refl _ _).alloc (Nat.le_refl _) _
  have I1 := I0.below hb0
  rw [← hp] at I1
  have hb : Below w.heap.size w W := by rw [hW]; exact ((Below.refl _ _).alloc (Nat.le_refl _) _).alloc (by simp) _
  have hsz : W.heap.size = R + 1 := by rw [hW, hR, hp]; simp
  have q2 : W.heap[R]? = some (.cells #[.slice none 0 0, .slice none 0 0] 25 (0, 0)) := by
    rw [hW, show R = (w.alloc (.cells #[.slice a n cap, .slice a2 n2 cap2] 25)).heap.size by rw [hR, hp]; simp]
    exact heap_alloc_new _ _
  have HI : Hid (InBox W p a n cap C a2 n2 cap2 H) := I1
  have HVW : Hid (RepoV W a n cap C a2 n2 cap2 H) := hV.later hb
  have c0 := I1.c0
  have c1 := I1.c1
  obtain ⟨z, hz⟩ : ∃ z, z = M.hchk C H s := ⟨_, rfl⟩
  obtain ⟨x, hx⟩ : ∃ x, x = M.hat C H s := ⟨_, rfl⟩
  have K0 := headOf_any a n cap C a2 n2 cap2 H s W I1.cm hV.nm I1.hs hV.hm
  rw [← hz, ← hx] at K0
  have KH : Hid (Calls Tryz.prog 97 #[.agg #[.slice a n cap, .slice a2 n2 cap2], .string s] W fun e w' => e = .returned (.tuple #[.int .i64 x, .int .i64 z]) ∧ Below W.heap.size W w') := K0
  have HZ : Aside (z = M.hchk C H s) := hz
  have HX : Aside (x = M.hat C H s) := hx
  have HNC : Aside (C.length = n) := hV.cm.1
  have hnm := hV.nm
  have HQ2 : Hid (W.heap[R]? = some (.cells #[.slice none 0 0, .slice none 0 0] 25 (0, 0))) := q2
  have HW : Hid (W = (w.alloc (.cells #[.slice a n cap, .slice a2 n2 cap2] 25)).alloc (.cells #[.slice none 0 0, .slice none 0 0] 25)) := hW
  have HP : Aside (p = w.heap.size) := hp
  have HR : Aside (R = p + 1) := hR
  have HPR : Aside (w.heap.size ≤ p) := by unfold Aside; omega
  have HSz : Aside (W.heap.size = R + 1) := hsz
  have hpR : p < R := by omega
  have HNH : Aside (H.length = n2) := hV.hs.1
  clear hW hp hR hV hb0 I0 I1 K0 hz hx q2 hsz
  go_enter Tryz.func58, Tryz.ntmps58
  go_wp2_with fail
  rw [← HW.out, ← HP.out, ← HR.out]
  go_wp2_with fail
  refine KH.out.mono ?_
  rintro e w1 ⟨rfl, b1⟩
  have hb1 : Below w.heap.size w w1 := hb.trans (b1.mono hb.size)
  have r1 : w1.heap[R]? = some (.cells #[.slice none 0 0, .slice none 0 0] 25 (0, 0)) := (b1.block R (by have := HSz.out; omega)).trans HQ2.out
  have bW1 := b1
  have J1 := HI.out.below b1
  have u1 := J1.c0
  have v1 := J1.c1
  by_cases hz0 : z = 0
  · subst hz0
    have HZ0 : Hid (M.hchk C H s = 0) := HZ.out.symm
    have hr0 := (M.hchk_zero HZ0.out).1
    have hd0 := (M.rchk_zero hr0).1
    obtain ⟨z2, hz2⟩ : ∃ z, z = M.hchk C H t := ⟨_, rfl⟩
    obtain ⟨y, hy⟩ : ∃ y, y = M.hat C H t := ⟨_, rfl⟩
    have K1 := headOf_any a n cap C a2 n2 cap2 H t w1 (HVW.out.later bW1).cm hnm (HVW.out.later bW1).hs (HVW.out.later bW1).hm
    rw [← hz2, ← hy] at K1
    have KH2 : Hid (Calls Tryz.prog 97 #[.agg #[.slice a n cap, .slice a2 n2 cap2], .string t] w1 fun e w' => e = .returned (.tuple #[.int .i64 y, .int .i64 z2]) ∧ Below w1.heap.size w1 w') := K1
    have HZ2 : Aside (z2 = M.hchk C H t) := hz2
    have HY : Aside (y = M.hat C H t) := hy
    clear K1 hz2 hy c0 c1 J1 KH
    go_wp2_with fail
    refine KH2.out.mono ?_
    rintro e w2 ⟨rfl, b2⟩
    have hb2 : Below w.heap.size w w2 := hb1.trans (b2.mono hb1.size)
    have r2 : w2.heap[R]? = some (.cells #[.slice none 0 0, .slice none 0 0] 25 (0, 0)) := (b2.block R (Array.getElem?_eq_some_iff.1 r1).1).trans r1
    have bW2 : Below W.heap.size W w2 := bW1.trans (b2.mono bW1.size)
    have J2 := HI.out.below bW2
    have u2 := J2.c0
    have v2 := J2.c1
    clear u1 v1 b2 KH2 r1
    by_cases hz20 : z2 = 0
    · subst hz20
      have HZ20 : Hid (M.hchk C H t = 0) := HZ2.out.symm
      have i1 := M.hat_in HZ0.out
      have i2 := M.hat_in HZ20.out
      rw [← HX.out, HNC.out] at i1
      rw [← HY.out, HNC.out] at i2
      obtain ⟨xn, rfl⟩ : ∃ xn : Nat, x = (xn : Int) := ⟨x.toNat, by omega⟩
      obtain ⟨yn, rfl⟩ : ∃ yn : Nat, y = (yn : Int) := ⟨y.toNat, by omega⟩
      have hxn : xn < n := by omega
      have hyn : yn < n := by omega
      have HJ : Hid (M.joinE C H s t = M.joinAt C xn yn ∧ M.joinK C H s t = M.keysAt C xn yn) := M.join_both HZ0.out HZ20.out HX.out.symm HY.out.symm
      have KA1 : Hid (Calls Tryz.prog 104 #[.slice a n cap, .int .i64 (xn : Int)] w2 fun e w' => e = .returned (.slice (some ⟨w2.heap.size, 0, none⟩) n n) ∧ Bo w' w2.heap.size (M.above C xn) ∧ Below w2.heap.size w2 w') := aboveOf_any a n cap C xn w2 J2.cm hd0 hxn
      have hxi : (xn : Int) < (n : Int) := by omega
      have hyi : (yn : Int) < (n : Int) := by omega
      clear i1 i2 J2
      go_wp2_with fail
      refine KA1.out.mono ?_
      rintro e w3 ⟨rfl, o3, b3⟩
      have hb3 : Below w.heap.size w w3 := hb2.trans (b3.mono hb2.size)
      have r3 : w3.heap[R]? = some (.cells #[.slice none 0 0, .slice none 0 0] 25 (0, 0)) := (b3.block R (Array.getElem?_eq_some_iff.1 r2).1).trans r2
      have bW3 : Below W.heap.size W w3 := bW2.trans (b3.mono bW2.size)
      have J3 := HI.out.below bW3
      have u3 := J3.c0
      have v3 := J3.c1
      obtain ⟨g1, hg1⟩ : ∃ g, g = (M.above C xn).getD yn false := ⟨_, rfl⟩
      have c3 : w3.cell? ⟨w2.heap.size, yn, none⟩ = some (.bool g1) := by rw [o3.cell (by rw [M.above_len, HNC.out]; exact hyn), ← hg1]
      have HG1 : Aside (g1 = (M.above C xn).getD yn false) := hg1
      clear u2 v2 b3 KA1 r2 hg1 o3 J3
      cases g1 with
      | true =>
        have E : Aside (M.joinE C H s t = 9) := by unfold Aside; rw [HJ.out.1]; unfold M.joinAt; rw [if_pos HG1.out.symm]
        have EC : Aside (M.joinC C H s t = [] ∧ M.joinH C H s t = [] ∧ M.joinK C H s t = []) := ⟨by unfold M.joinC; rw [if_pos (by rw [E.out]; decide)], by unfold M.joinH; rw [if_pos (by rw [E.out]; decide)], by rw [HJ.out.2]; unfold M.keysAt; rw [if_pos HG1.out.symm]⟩
        obtain ⟨g1, g2, g3⟩ := res_set r3 (.slice none 0 0) (.slice none 0 0)
        obtain ⟨X, hX⟩ : ∃ X, X = (w3.setCell ⟨R, 0, none⟩ (.slice none 0 0)).setCell ⟨R, 1, none⟩ (.slice none 0 0) := ⟨_, rfl⟩
        rw [← hX] at g1
        have bX : Below w.heap.size w X := by rw [hX]; exact (hb3.setCell (p := ⟨R, 0, none⟩) (by show _ ≤ R; have := HPR.out; omega) _).setCell (p := ⟨R, 1, none⟩) (by show _ ≤ R; have := HPR.out; omega) _
        have gX := g1
        have HX9 : Hid (X = (w3.setCell ⟨R, 0, none⟩ (.slice none 0 0)).setCell ⟨R, 1, none⟩ (.slice none 0 0)) := hX
        have HX0 : Aside (X.cell? ⟨R, 0, none⟩ = some (.slice none 0 0)) := by unfold Aside; rw [cell_of_row _ _ _ _ _ _ gX]; rfl
        have HX1 : Aside (X.cell? ⟨R, 1, none⟩ = some (.slice none 0 0)) := by unfold Aside; rw [cell_of_row _ _ _ _ _ _ gX]; rfl
        have x0 : w3.cell? ⟨R, 0, none⟩ = some (.slice none 0 0) := by rw [cell_of_row _ _ _ _ _ _ r3]; rfl
        have x1 : w3.cell? ⟨R, 1, none⟩ = some (.slice none 0 0) := by rw [cell_of_row _ _ _ _ _ _ r3]; rfl
        have f0 : w3.frozen? ⟨R, 0, none⟩ = false := frozen_of_row _ _ _ _ _ r3
        have f1 : w3.frozen? ⟨R, 1, none⟩ = false := frozen_of_row _ _ _ _ _ r3
        clear g1 g2 g3 hX gX r3 
        go_wp2
        rw [← HX9.out]
        have y0 := HX0.out
        have y1 := HX1.out
        refine bodyPost_ret (v := .tuple #[.agg #[.slice none 0 0, .slice none 0 0], .slice none 0 0, .int .i64 9]) (by simp [results, Tryz.results58, go_sem, y0, y1]) rfl ?_
        refine ⟨_, none, 0, 0, ret_three E.out.symm, ?_, ?_, Nat.le_refl _, by simp [maxLen], bX⟩
        · rw [EC.out.1, EC.out.2.1]; exact RepoOwn.none _ _
        · rw [EC.out.2.2]; exact ⟨rfl, Or.inl rfl⟩
      | false =>
        have hlp : 0 ≤ M.plc H s := (M.hchk_zero HZ0.out).2
        have hll := M.plc_lt H s
        obtain ⟨kk, hkk⟩ : ∃ kk : Nat, M.plc H s = (kk : Int) := ⟨(M.plc H s).toNat, by omega⟩
        have hkl : kk < H.length := by omega
        have HKK : Hid (M.plc H s = (kk : Int)) := hkk
        have KA : Hid (Calls Tryz.prog 101 #[.agg #[.slice a n cap, .slice a2 n2 cap2], .string s] w3 fun e w' => e = .returned (.int .i64 (kk : Int)) ∧ Below w3.heap.size w3 w') := by
          have q := HVW.out.later bW3
          have := headAt_any a n cap C a2 n2 cap2 H s w3 q.cm q.hs q.hm
          rw [hkk] at this
          exact this
        clear hkk hll hlp
        go_wp2_with fail
        refine KA.out.mono ?_
        rintro e w4 ⟨rfl, b4⟩
        have hb4 : Below w.heap.size w w4 := hb3.trans (b4.mono hb3.size)
        have r4 : w4.heap[R]? = some (.cells #[.slice none 0 0, .slice none 0 0] 25 (0, 0)) := (b4.block R (Array.getElem?_eq_some_iff.1 r3).1).trans r3
        have bW4 : Below W.heap.size W w4 := bW3.trans (b4.mono bW3.size)
        have J4 := HI.out.below bW4
        have u4 := J4.c0
        have v4 := J4.c1
        clear u3 v3 b4 KA r3 c3
        have KA2 : Hid (Calls Tryz.prog 104 #[.slice a n cap, .int .i64 (yn : Int)] w4 fun e w' => e = .returned (.slice (some ⟨w4.heap.size, 0, none⟩) n n) ∧ Bo w' w4.heap.size (M.above C yn) ∧ Below w4.heap.size w4 w') := aboveOf_any a n cap C yn w4 J4.cm hd0 hyn
        clear J4
        go_wp2_with fail
        refine KA2.out.mono ?_
        rintro e w5 ⟨rfl, o5, b5⟩
        have hb5 : Below w.heap.size w w5 := hb4.trans (b5.mono hb4.size)
        have r5 : w5.heap[R]? = some (.cells #[.slice none 0 0, .slice none 0 0] 25 (0, 0)) := (b5.block R (Array.getElem?_eq_some_iff.1 r4).1).trans r4
        have bW5 : Below W.heap.size W w5 := bW4.trans (b5.mono bW4.size)
        have J5 := HI.out.below bW5
        have u5 := J5.c0
        have v5 := J5.c1
        obtain ⟨g2, hg2⟩ : ∃ g, g = (M.above C yn).getD xn false := ⟨_, rfl⟩
        have c5 : w5.cell? ⟨w4.heap.size, xn, none⟩ = some (.bool g2) := by rw [o5.cell (by rw [M.above_len, HNC.out]; exact hxn), ← hg2]
        have HG2 : Aside (g2 = (M.above C yn).getD xn false) := hg2
        clear u4 v4 b5 KA2 r4 hg2 o5
        cases g2 with
        | true =>
          have E0 : Aside (M.joinE C H s t = 0) := by unfold Aside; rw [HJ.out.1]; unfold M.joinAt; rw [if_neg (by rw [← HG1.out]; simp), if_pos HG2.out.symm]
          have EC : Aside (M.joinC C H s t = C ∧ M.joinH C H s t = M.setH H kk (yn : Int) ∧ M.joinK C H s t = []) := by
            have hg : (M.above C (M.hat C H t).toNat).getD (M.hat C H s).toNat false = true := by rw [← HX.out, ← HY.out]; exact HG2.out.symm
            refine ⟨by unfold M.joinC; rw [if_neg (fun h => h E0.out), if_pos hg], ?_, ?_⟩
            · unfold M.joinH
              rw [if_neg (fun h => h E0.out), if_pos hg, ← HY.out]
              unfold M.mv M.setH
              rw [HKK.out]; rfl
            · rw [HJ.out.2]; unfold M.keysAt; rw [if_neg (by rw [← HG1.out]; simp), if_pos HG2.out.symm]
          have KO : Hid (Calls Tryz.prog 103 #[.agg #[.slice a n cap, .slice a2 n2 cap2]] w5 fun e w' => ∃ v, e = .returned v ∧ RepoOwn w' w5.heap.size v C H ∧ Below w5.heap.size w5 w') := ownRepo_any a n cap C a2 n2 cap2 H w5 (HVW.out.later bW5) hr0
          clear J5
          go_wp2_with fail
          refine KO.out.mono ?_
          rintro e w6 ⟨v, rfl, ⟨xx, yy, rfl, ok, oh⟩, b6⟩
          obtain ⟨xa, xc, rfl, _⟩ := ok.cm
          obtain ⟨g, yc, rfl⟩ : ∃ g yc, yy = .slice (some ⟨g, 0, none⟩) H.length yc := by
            rcases oh.1.2 with ⟨e, e2⟩ | ⟨g, cap, _, e, _⟩
            · omega
            · exact ⟨g, cap, e⟩
          obtain ⟨D, hD⟩ : ∃ D, D = w6.heap.size := ⟨_, rfl⟩
          obtain ⟨m, hm⟩ : ∃ m, m = C.length := ⟨_, rfl⟩
          obtain ⟨W7, hW7⟩ : ∃ W7, W7 = w6.alloc (.cells #[.slice xa m xc, .slice (some ⟨g, 0, none⟩) n2 yc] 25) := ⟨_, rfl⟩
          have bW7 : Below w6.heap.size w6 W7 := by rw [hW7]; exact (Below.refl _ _).alloc (Nat.le_refl _) _
          have blk : W7.heap[D]? = some (.cells #[.slice xa m xc, .slice (some ⟨g, 0, none⟩) H.length yc] 25 (0, 0)) := by rw [hW7, hD, HNH.out]; exact heap_alloc_new _ _
          rw [← hm] at ok
          obtain ⟨Q1, Q2, Q3, Q4, Q5, Q6⟩ := boxed_moved (k := kk) ((yn : Nat) : Int) blk (ok.later bW7) (oh.later bW7) hkl
          rw [HNH.out] at blk Q1 Q3
          rw [← hm, HNH.out]
          obtain ⟨W8, hW8⟩ : ∃ W8, W8 = W7.setCell ⟨g, kk * 2 + 1, none⟩ (.int .i64 (yn : Int)) := ⟨_, rfl⟩
          rw [← hW8] at Q1 Q2 Q3
          have q57 : Below w5.heap.size w5 W7 := b6.trans (bW7.mono b6.size)
          have q58 : Below w5.heap.size w5 W8 := by rw [hW8]; exact q57.setCell (p := ⟨g, kk * 2 + 1, none⟩) Q5 _
          have d0 : W7.cell? ⟨D, 0, none⟩ = some (.slice xa m xc) := by rw [cell_of_row _ _ _ _ _ _ blk]; rfl
          have d1 : W7.cell? ⟨D, 1, none⟩ = some (.slice (some ⟨g, 0, none⟩) n2 yc) := by rw [cell_of_row _ _ _ _ _ _ blk]; rfl
          have e0 : W8.cell? ⟨D, 0, none⟩ = some (.slice xa m xc) := by rw [cell_of_row _ _ _ _ _ _ Q1]; rfl
          have e1 : W8.cell? ⟨D, 1, none⟩ = some (.slice (some ⟨g, 0, none⟩) n2 yc) := by rw [cell_of_row _ _ _ _ _ _ Q1]; rfl
          have r8 : W8.heap[R]? = some (.cells #[.slice none 0 0, .slice none 0 0] 25 (0, 0)) := (q58.block R (Array.getElem?_eq_some_iff.1 r5).1).trans r5
          have hbw : Below w.heap.size w W8 := hb5.trans (q58.mono hb5.size)
          have HRO : Aside (RepoOwn ((W8.setCell ⟨R, 0, none⟩ (.slice xa m xc)).setCell ⟨R, 1, none⟩ (.slice (some ⟨g, 0, none⟩) n2 yc)) w.heap.size (.agg #[.slice xa m xc, .slice (some ⟨g, 0, none⟩) n2 yc]) (M.joinC C H s t) (M.joinH C H s t)) := by unfold Aside; rw [EC.out.1, EC.out.2.1]; exact (repoOwn_set r8 Q2 Q3).lower hb5.size
          obtain ⟨g1, g2, g3⟩ := res_set r8 (.slice xa m xc) (.slice (some ⟨g, 0, none⟩) n2 yc)
          obtain ⟨X, hX⟩ : ∃ X, X = (W8.setCell ⟨R, 0, none⟩ (.slice xa m xc)).setCell ⟨R, 1, none⟩ (.slice (some ⟨g, 0, none⟩) n2 yc) := ⟨_, rfl⟩
          rw [← hX] at g1 HRO
          have bX : Below w.heap.size w X := by rw [hX]; exact (hbw.setCell (p := ⟨R, 0, none⟩) (by show _ ≤ R; have := HPR.out; omega) _).setCell (p := ⟨R, 1, none⟩) (by show _ ≤ R; have := HPR.out; omega) _
          have HX9 : Hid (X = (W8.setCell ⟨R, 0, none⟩ (.slice xa m xc)).setCell ⟨R, 1, none⟩ (.slice (some ⟨g, 0, none⟩) n2 yc)) := hX
          have HW7 : Hid (W7 = w6.alloc (.cells #[.slice xa m xc, .slice (some ⟨g, 0, none⟩) n2 yc] 25)) := hW7
          have HW8 : Hid (W8 = W7.setCell ⟨g, kk * 2 + 1, none⟩ (.int .i64 (yn : Int))) := hW8
          have HX0 : Aside (X.cell? ⟨R, 0, none⟩ = some (.slice xa m xc)) := by unfold Aside; rw [cell_of_row _ _ _ _ _ _ g1]; rfl
          have HX1 : Aside (X.cell? ⟨R, 1, none⟩ = some (.slice (some ⟨g, 0, none⟩) n2 yc)) := by unfold Aside; rw [cell_of_row _ _ _ _ _ _ g1]; rfl
          have x0 : W8.cell? ⟨R, 0, none⟩ = some (.slice none 0 0) := by rw [cell_of_row _ _ _ _ _ _ r8]; rfl
          have x1 : W8.cell? ⟨R, 1, none⟩ = some (.slice none 0 0) := by rw [cell_of_row _ _ _ _ _ _ r8]; rfl
          have f0 : W8.frozen? ⟨R, 0, none⟩ = false := frozen_of_row _ _ _ _ _ r8
          have f1 : W8.frozen? ⟨R, 1, none⟩ = false := frozen_of_row _ _ _ _ _ r8
          have q4 := Q4
          have q6 := Q6
          have hki : (kk : Int) < (n2 : Int) := by have := HNH.out; omega
          rw [hW7, hD] at d0 d1
          rw [hW7] at q4 q6
          rw [hW8, hW7] at e0 e1 x0 x1 f0 f1
          rw [hD] at e0 e1
          clear g1 g2 g3 hX hW7 hW8 hD Q1 Q2 Q3 Q4 Q5 Q6 ok oh blk hm b6 bW7 q57 q58 r8 r5 KO u5 v5
          go_wp2
          rw [← HW7.out, ← HW8.out, ← HX9.out]
          have y0 := HX0.out
          have y1 := HX1.out
          refine bodyPost_ret (v := .tuple #[.agg #[.slice xa m xc, .slice (some ⟨g, 0, none⟩) n2 yc], .slice none 0 0, .int .i64 0]) (by simp [results, Tryz.results58, go_sem, y0, y1]) rfl ?_
          exact ⟨_, none, 0, 0, ret_three E0.out.symm, HRO.out, by rw [EC.out.2.2]; exact ⟨rfl, Or.inl rfl⟩, Nat.le_refl _, by simp [maxLen], bX⟩
        | false =>
          by_cases h14 : n = 14
          · have E : Aside (M.joinE C H s t = 2) := by unfold Aside; rw [HJ.out.1]; unfold M.joinAt; rw [if_neg (by rw [← HG1.out]; simp), if_neg (by rw [← HG2.out]; simp), if_pos (by rw [HNC.out]; omega)]
            have h14b : ((n : Int) == 14) = true := by simp [h14]
            have EC : Aside (M.joinC C H s t = [] ∧ M.joinH C H s t = [] ∧ M.joinK C H s t = []) := ⟨by unfold M.joinC; rw [if_pos (by rw [E.out]; decide)], by unfold M.joinH; rw [if_pos (by rw [E.out]; decide)], by rw [HJ.out.2]; unfold M.keysAt; rw [if_neg (by rw [← HG1.out]; simp), if_neg (by rw [← HG2.out]; simp), if_pos (by rw [HNC.out]; omega)]⟩
            clear h14 J5
            obtain ⟨g1, g2, g3⟩ := res_set r5 (.slice none 0 0) (.slice none 0 0)
            obtain ⟨X, hX⟩ : ∃ X, X = (w5.setCell ⟨R, 0, none⟩ (.slice none 0 0)).setCell ⟨R, 1, none⟩ (.slice none 0 0) := ⟨_, rfl⟩
            rw [← hX] at g1
            have bX : Below w.heap.size w X := by rw [hX]; exact (hb5.setCell (p := ⟨R, 0, none⟩) (by show _ ≤ R; have := HPR.out; omega) _).setCell (p := ⟨R, 1, none⟩) (by show _ ≤ R; have := HPR.out; omega) _
            have gX := g1
            have HX9 : Hid (X = (w5.setCell ⟨R, 0, none⟩ (.slice none 0 0)).setCell ⟨R, 1, none⟩ (.slice none 0 0)) := hX
            have HX0 : Aside (X.cell? ⟨R, 0, none⟩ = some (.slice none 0 0)) := by unfold Aside; rw [cell_of_row _ _ _ _ _ _ gX]; rfl
            have HX1 : Aside (X.cell? ⟨R, 1, none⟩ = some (.slice none 0 0)) := by unfold Aside; rw [cell_of_row _ _ _ _ _ _ gX]; rfl
            have x0 : w5.cell? ⟨R, 0, none⟩ = some (.slice none 0 0) := by rw [cell_of_row _ _ _ _ _ _ r5]; rfl
            have x1 : w5.cell? ⟨R, 1, none⟩ = some (.slice none 0 0) := by rw [cell_of_row _ _ _ _ _ _ r5]; rfl
            have f0 : w5.frozen? ⟨R, 0, none⟩ = false := frozen_of_row _ _ _ _ _ r5
            have f1 : w5.frozen? ⟨R, 1, none⟩ = false := frozen_of_row _ _ _ _ _ r5
            clear g1 g2 g3 hX gX r5 
            go_wp2
            rw [← HX9.out]
            have y0 := HX0.out
            have y1 := HX1.out
            refine bodyPost_ret (v := .tuple #[.agg #[.slice none 0 0, .slice none 0 0], .slice none 0 0, .int .i64 2]) (by simp [results, Tryz.results58, go_sem, y0, y1]) rfl ?_
            refine ⟨_, none, 0, 0, ret_three E.out.symm, ?_, ?_, Nat.le_refl _, by simp [maxLen], bX⟩
            · rw [EC.out.1, EC.out.2.1]; exact RepoOwn.none _ _
            · rw [EC.out.2.2]; exact ⟨rfl, Or.inl rfl⟩
          · have h14b : ((n : Int) == 14) = false := by simp; omega
            have hn14 : n < 14 := by have := (M.dchk_zero hd0).1; have := HNC.out; omega
            have KB : Hid (Calls Tryz.prog 105 #[.slice a n cap, .int .i64 (xn : Int), .int .i64 (yn : Int)] w5 fun e w' => ∃ v, e = .returned v ∧ OwnI w' w5.heap.size v (M.bases C xn yn) ∧ Below w5.heap.size w5 w') := basesOf_any a n cap C xn yn w5 J5.cm hd0 hxn hyn
            have HAt : Hid (M.joinE C H s t = (if M.mergeE (M.baseR C xn yn) (C.getD xn ([], [])).1 (C.getD yn ([], [])).1 ≠ 0 then M.mergeE (M.baseR C xn yn) (C.getD xn ([], [])).1 (C.getD yn ([], [])).1 else if (M.mergeK (M.baseR C xn yn) (C.getD xn ([], [])).1 (C.getD yn ([], [])).1).length ≠ 0 then 7 else 0) ∧ M.joinK C H s t = (if M.mergeE (M.baseR C xn yn) (C.getD xn ([], [])).1 (C.getD yn ([], [])).1 ≠ 0 then [] else M.mergeK (M.baseR C xn yn) (C.getD xn ([], [])).1 (C.getD yn ([], [])).1)) := by
              unfold Hid
              rw [HJ.out.1, HJ.out.2]
              unfold M.joinAt M.keysAt
              have hc : ¬ 14 ≤ C.length := by rw [HNC.out]; omega
              refine ⟨?_, ?_⟩
              · rw [if_neg (by rw [← HG1.out]; simp), if_neg (by rw [← HG2.out]; simp), if_neg hc]
              · rw [if_neg (by rw [← HG1.out]; simp), if_neg (by rw [← HG2.out]; simp), if_neg hc]
            clear h14 J5
            go_wp2_with fail
            refine KB.out.mono ?_
            rintro e w6 ⟨v, rfl, o6, b6⟩
            have hb6 : Below w.heap.size w w6 := hb5.trans (b6.mono hb5.size)
            have r6 : w6.heap[R]? = some (.cells #[.slice none 0 0, .slice none 0 0] 25 (0, 0)) := (b6.block R (Array.getElem?_eq_some_iff.1 r5).1).trans r5
            have bW6 : Below W.heap.size W w6 := bW5.trans (b6.mono bW5.size)
            have J6 := HI.out.below bW6
            have u6 := J6.c0
            have v6 := J6.c1
            obtain ⟨la, lc, rfl, rl6, ll6, lm6⟩ := o6.ri
            obtain ⟨Bs, hBs⟩ : ∃ Bs, Bs = M.bases C xn yn := ⟨_, rfl⟩
            obtain ⟨ln, hln⟩ : ∃ ln, ln = (M.bases C xn yn).length := ⟨_, rfl⟩
            rw [← hln] at rl6 ⊢
            rw [← hBs] at rl6
            have hBin := M.bases_in C xn yn
            rw [← hBs, HNC.out] at hBin
            rw [← hBs] at hln
            have HRl : Hid (Ri w6 la ln Bs) := rl6
            have HLn : Aside (ln = Bs.length) := hln
            have HBR : Hid (M.baseR C xn yn = if Bs.length = 0 then [] else (C.getD (Bs.getD (Bs.length - 1) 0).toNat ([], [])).1) := by unfold Hid M.baseR; rw [← hBs]
            have HBin : Hid ((∀ v ∈ Bs, 0 ≤ v ∧ v < (n : Int)) ∧ Bs.length ≤ n) := hBin
            have hlnb : ln ≤ 14 := by rw [hln]; have := hBin.2; omega
            clear u5 v5 b6 KB r5 c5 rl6 ll6 lm6 hBs hln hBin
            obtain ⟨b, off, rfl, hb6lt, a1, n1, c1, a1', n1', c1', t0, t1, s0, s1, m1, m1'⟩ := J6.cm.nth hxn
            obtain ⟨b', off', he', _, a3, n3, c3, a3', n3', c3', t0', t1', s0', s1', m3, m3'⟩ := J6.cm.nth hyn
            cases he'
            have HS1 : Hid (Rd w6 a1 n1 (C.getD xn ([], [])).1) := s0
            have HS3 : Hid (Rd w6 a3 n3 (C.getD yn ([], [])).1) := s0'
            have hp6 : p < w6.heap.size := J6.lt
            have HSV : Hid (∀ V, Below w6.heap.size w6 V → V.cell? ⟨p, 0, none⟩ = some (.slice (some ⟨b, off, none⟩) n cap) ∧ V.cell? ⟨b, off + xn * 2, none⟩ = some (.slice a1 n1 c1) ∧ V.cell? ⟨b, off + yn * 2, none⟩ = some (.slice a3 n3 c3)) := fun V hV => ⟨(hV.cell (p := ⟨p, 0, none⟩) hp6).trans u6, (hV.cell (p := ⟨b, off + xn * 2, none⟩) hb6lt).trans t0, (hV.cell (p := ⟨b, off + yn * 2, none⟩) hb6lt).trans t0'⟩
            have HJ6 : Hid (InBox w6 p (some ⟨b, off, none⟩) n cap C a2 n2 cap2 H) := J6
            clear s0 s1 s0' s1' t0 t1 t0' t1' J6
            by_cases hl0 : ln = 0
            · subst hl0
              have HRb : Hid (Rd w6 none 0 (M.baseR C xn yn)) := by unfold Hid; rw [HBR.out, if_pos HLn.out.symm]; exact ⟨rfl, Or.inl rfl⟩
              have hbn : (0 : Nat) ≤ 9223372036854775807 := by omega
              have bV6 : Below w6.heap.size w6 w6 := Below.refl _ _
              clear o6
              obtain ⟨E, hE⟩ : ∃ E, E = M.mergeE (M.baseR C xn yn) (C.getD xn ([], [])).1 (C.getD yn ([], [])).1 := ⟨_, rfl⟩
              have KM : Hid (∀ U, Below w6.heap.size w6 U → Calls Tryz.prog 106 #[.slice none 0 0, .slice a1 n1 c1, .slice a3 n3 c3] U fun e w' => Hands3O U w' (M.mergeV (M.baseR C xn yn) (C.getD xn ([], [])).1 (C.getD yn ([], [])).1) (M.mergeK (M.baseR C xn yn) (C.getD xn ([], [])).1 (C.getD yn ([], [])).1) E e) := fun U hU => by
                rw [hE]
                exact mergeOf_own none a1 a3 0 n1 n3 0 c1 c3 _ _ _ U (HRb.out.below (bV6.trans (hU.mono bV6.size)) (Nat.le_refl _)) (HS1.out.below (bV6.trans (hU.mono bV6.size)) (Nat.le_refl _)) (HS3.out.below (bV6.trans (hU.mono bV6.size)) (Nat.le_refl _)) hbn m1 m3
              have HE : Aside (E = M.mergeE (M.baseR C xn yn) (C.getD xn ([], [])).1 (C.getD yn ([], [])).1) := hE
              have HBd : Hid (Below w6.heap.size w6 w6.drew) := (Below.refl _ _).drew
              have HSU : Hid (∀ U, Below w6.heap.size w6 U → U.cell? ⟨p, 0, none⟩ = some (.slice (some ⟨b, off, none⟩) n cap) ∧ U.cell? ⟨b, off + xn * 2, none⟩ = some (.slice a1 n1 c1) ∧ U.cell? ⟨b, off + yn * 2, none⟩ = some (.slice a3 n3 c3)) := fun U hU => HSV.out U (bV6.trans (hU.mono bV6.size))
              clear hE
              go_wp2_with fail
              refine wp_region_till 20 (fun V => V.cell? ⟨p, 0, none⟩ = some (.slice (some ⟨b, off, none⟩) n cap) ∧ V.cell? ⟨b, off + xn * 2, none⟩ = some (.slice a1 n1 c1) ∧ V.cell? ⟨b, off + yn * 2, none⟩ = some (.slice a3 n3 c3)) (by kernel_rfl) (HSU.out _ HBd.out) (fun hHeld => ?_)
              refine till_go 0 (v := .slice none 0 0) rfl (by decide) (by kernel_rfl) (by kernel_rfl) (by kernel_rfl) (fun _ _ _ h => h) (Or.inl ⟨by rfl, fun V _ => (by go_simp)⟩) hHeld ?_
              try simp only [Act.put]
              refine till_go 1 (v := .pointer (some ⟨p, 0, none⟩)) rfl (by decide) (by kernel_rfl) (by kernel_rfl) (by kernel_rfl) (fun _ _ _ h => h) (Or.inl ⟨by rfl, fun V _ => (by go_simp)⟩) hHeld ?_
              try simp only [Act.put]
              refine till_take 2 (v := .slice (some ⟨b, off, none⟩) n cap) rfl (by decide) (by kernel_rfl) (by kernel_rfl) (by kernel_rfl) (by kernel_rfl) (by kernel_rfl) (fun _ _ _ h => h) (Or.inl ⟨by rfl, fun V hV => (by obtain ⟨v0, v1, v2⟩ := hV; go_simp)⟩) hHeld ?_
              try simp only [Act.put]
              refine till_go 3 (v := .int .i64 (xn : Int)) rfl (by decide) (by kernel_rfl) (by kernel_rfl) (by kernel_rfl) (fun _ _ _ h => h) (Or.inl ⟨by rfl, fun V _ => (by go_simp)⟩) hHeld ?_
              try simp only [Act.put]
              refine till_go 4 (v := .pointer (some ⟨b, off + xn * 2, none⟩)) rfl (by decide) (by kernel_rfl) (by kernel_rfl) (by kernel_rfl) (fun _ _ _ h => h) (Or.inl ⟨by rfl, fun V _ => (by go_simp)⟩) hHeld ?_
              try simp only [Act.put]
              refine till_go 5 (v := .pointer (some ⟨b, off + xn * 2, none⟩)) rfl (by decide) (by kernel_rfl) (by kernel_rfl) (by kernel_rfl) (fun _ _ _ h => h) (Or.inl ⟨by rfl, fun V _ => (by go_simp)⟩) hHeld ?_
              try simp only [Act.put]
              refine till_take 6 (v := .slice a1 n1 c1) rfl (by decide) (by kernel_rfl) (by kernel_rfl) (by kernel_rfl) (by kernel_rfl) (by kernel_rfl) (fun _ _ _ h => h) (Or.inl ⟨by rfl, fun V hV => (by obtain ⟨v0, v1, v2⟩ := hV; go_simp)⟩) hHeld ?_
              try simp only [Act.put]
              refine till_go 7 (v := .pointer (some ⟨p, 0, none⟩)) rfl (by decide) (by kernel_rfl) (by kernel_rfl) (by kernel_rfl) (fun _ _ _ h => h) (Or.inl ⟨by rfl, fun V _ => (by go_simp)⟩) hHeld ?_
              try simp only [Act.put]
              refine till_take 8 (v := .slice (some ⟨b, off, none⟩) n cap) rfl (by decide) (by kernel_rfl) (by kernel_rfl) (by kernel_rfl) (by kernel_rfl) (by kernel_rfl) (fun _ _ _ h => h) (Or.inl ⟨by rfl, fun V hV => (by obtain ⟨v0, v1, v2⟩ := hV; go_simp)⟩) hHeld ?_
              try simp only [Act.put]
              refine till_go 9 (v := .int .i64 (yn : Int)) rfl (by decide) (by kernel_rfl) (by kernel_rfl) (by kernel_rfl) (fun _ _ _ h => h) (Or.inl ⟨by rfl, fun V _ => (by go_simp)⟩) hHeld ?_
              try simp only [Act.put]
              refine till_go 10 (v := .pointer (some ⟨b, off + yn * 2, none⟩)) rfl (by decide) (by kernel_rfl) (by kernel_rfl) (by kernel_rfl) (fun _ _ _ h => h) (Or.inl ⟨by rfl, fun V _ => (by go_simp)⟩) hHeld ?_
              try simp only [Act.put]
              refine till_go 11 (v := .pointer (some ⟨b, off + yn * 2, none⟩)) rfl (by decide) (by kernel_rfl) (by kernel_rfl) (by kernel_rfl) (fun _ _ _ h => h) (Or.inl ⟨by rfl, fun V _ => (by go_simp)⟩) hHeld ?_
              try simp only [Act.put]
              refine till_take 12 (v := .slice a3 n3 c3) rfl (by decide) (by kernel_rfl) (by kernel_rfl) (by kernel_rfl) (by kernel_rfl) (by kernel_rfl) (fun _ _ _ h => h) (Or.inl ⟨by rfl, fun V hV => (by obtain ⟨v0, v1, v2⟩ := hV; go_simp)⟩) hHeld ?_
              try simp only [Act.put]
              refine till_step 13 rfl (by decide) (by kernel_rfl) (fun K hK => ?_)
              go_simp
              go_wp2_with (go_at_call 106; refine (KM.out _ HBd.out).mono ?_; rintro e w7 ⟨ra, rn, rc, kb, kn, kc, rfl, rr, rle, rmx, ⟨rnil, ro⟩, kr, kle, kmx, b7⟩)
              have q7 : Below w6.heap.size w6 w7 := HBd.out.trans b7
              refine hK.out _ _ (HSU.out _ q7) (fun hHeld => ?_)
              clear hK K
              refine till_go 14 (v := .tuple #[.slice ra rn rc, .slice kb kn kc, .int .i64 E]) rfl (by decide) (by kernel_rfl) (by kernel_rfl) (by kernel_rfl) (fun _ _ _ h => h) (Or.inl ⟨by rfl, fun V _ => (by go_simp)⟩) hHeld ?_
              try simp only [Act.put]
              refine till_go 15 (v := .slice ra rn rc) rfl (by decide) (by kernel_rfl) (by kernel_rfl) (by kernel_rfl) (fun _ _ _ h => h) (Or.inl ⟨by rfl, fun V _ => (by go_simp)⟩) hHeld ?_
              try simp only [Act.put]
              refine till_go 16 (v := .slice kb kn kc) rfl (by decide) (by kernel_rfl) (by kernel_rfl) (by kernel_rfl) (fun _ _ _ h => h) (Or.inl ⟨by rfl, fun V _ => (by go_simp)⟩) hHeld ?_
              try simp only [Act.put]
              refine till_go 17 (v := .int .i64 E) rfl (by decide) (by kernel_rfl) (by kernel_rfl) (by kernel_rfl) (fun _ _ _ h => h) (Or.inl ⟨by rfl, fun V _ => (by go_simp)⟩) hHeld ?_
              try simp only [Act.put]
              refine till_go 18 (v := .slice ra rn rc) rfl (by decide) (by kernel_rfl) (by kernel_rfl) (by kernel_rfl) (fun _ _ _ h => h) (Or.inl ⟨by rfl, fun V _ => (by go_simp)⟩) hHeld ?_
              try simp only [Act.put]
              refine till_go 19 (v := .slice kb kn kc) rfl (by decide) (by kernel_rfl) (by kernel_rfl) (by kernel_rfl) (fun _ _ _ h => h) (Or.inl ⟨by rfl, fun V _ => (by go_simp)⟩) hHeld ?_
              try simp only [Act.put]
              refine till_last rfl (by kernel_rfl) (by kernel_rfl) (fun K hK => ?_) _
              go_simp
              refine hK.out _ _ ?_
              clear hK K
              have hb7 : Below w.heap.size w w7 := hb6.trans ((bV6.trans (q7.mono bV6.size)).mono hb6.size)
              have r7 : w7.heap[R]? = some (.cells #[.slice none 0 0, .slice none 0 0] 25 (0, 0)) := ((bV6.trans (q7.mono bV6.size)).block R (Array.getElem?_eq_some_iff.1 r6).1).trans r6
              have bW7 : Below W.heap.size W w7 := bW6.trans ((bV6.trans (q7.mono bV6.size)).mono bW6.size)
              have u7 := (HI.out.below bW7).c0
              have v7 := (HI.out.below bW7).c1
              have hV7 : w.heap.size ≤ w6.heap.size := (hb6.trans (bV6.mono hb6.size)).size
              have ro7 : Own w7 w.heap.size (.slice ra rn rc) (M.mergeV (M.baseR C xn yn) (C.getD xn ([], [])).1 (C.getD yn ([], [])).1) := Own.lower ro (by simpa using hV7)
              have HRo : Hid (Own w7 w.heap.size (.slice ra rn rc) (M.mergeV (M.baseR C xn yn) (C.getD xn ([], [])).1 (C.getD yn ([], [])).1)) := ro7
              have HKr : Hid (Ri w7 kb kn (M.mergeK (M.baseR C xn yn) (C.getD xn ([], [])).1 (C.getD yn ([], [])).1)) := kr
              clear ro ro7 rr rnil b7 q7 u6 v6 r6 KM HSU HSV hHeld
              by_cases hE0 : E = 0
              · subst hE0
                have hkl0 : (M.mergeK (M.baseR C xn yn) (C.getD xn ([], [])).1 (C.getD yn ([], [])).1).length = kn := HKr.out.1
                have hAt := HAt.out
                obtain ⟨hA1, hA2⟩ := hAt
                rw [if_neg (fun h => h HE.out.symm), hkl0] at hA1
                rw [if_neg (fun h => h HE.out.symm)] at hA2
                have HAt2 : Hid (M.joinE C H s t = (if kn ≠ 0 then 7 else 0) ∧ M.joinK C H s t = M.mergeK (M.baseR C xn yn) (C.getD xn ([], [])).1 (C.getD yn ([], [])).1) := ⟨hA1, hA2⟩
                clear hA1 hA2 hkl0
                by_cases hk0 : kn = 0
                · subst hk0
                  have E0 : Aside (M.joinE C H s t = 0) := by unfold Aside; rw [HAt2.out.1]; simp
                  have hg0 : (M.above C (M.hat C H t).toNat).getD (M.hat C H s).toNat false = false := by rw [← HX.out, ← HY.out]; exact HG2.out.symm
                  have EC : Aside (M.joinC C H s t = C ++ [(M.mergeV (M.baseR C xn yn) (C.getD xn ([], [])).1 (C.getD yn ([], [])).1, [min (xn : Int) (yn : Int), max (xn : Int) (yn : Int)])] ∧ M.joinH C H s t = M.setH H kk C.length ∧ M.joinK C H s t = []) := by
                    refine ⟨?_, ?_, ?_⟩
                    · unfold M.joinC
                      rw [if_neg (fun h => h E0.out), if_neg (by rw [hg0]; simp), ← HX.out, ← HY.out]; rfl
                    · unfold M.joinH
                      rw [if_neg (fun h => h E0.out), if_neg (by rw [hg0]; simp)]
                      unfold M.mv M.setH
                      rw [HKK.out]; rfl
                    · rw [HAt2.out.2]
                      exact List.eq_nil_of_length_eq_zero HKr.out.1
                  have HLen : Aside ((M.mergeV (M.baseR C xn yn) (C.getD xn ([], [])).1 (C.getD yn ([], [])).1).length ≤ 1000000) := by have := M.mergeV_len HE.out.symm; unfold Aside; omega
                  obtain ⟨W8, hW8⟩ : ∃ W8, W8 = w7.alloc (.cells #[.int .i64 (min (xn : Int) (yn : Int)), .int .i64 (max (xn : Int) (yn : Int))] 3) := ⟨_, rfl⟩
                  have b8 : Below w7.heap.size w7 W8 := by rw [hW8]; exact (Below.refl _ _).alloc (Nat.le_refl _) _
                  have KG : Hid (Calls Tryz.prog 100 #[.agg #[.slice (some ⟨b, off, none⟩) n cap, .slice a2 n2 cap2], .int .i64 (kk : Int), .slice ra rn rc, .slice (some ⟨w7.heap.size, 0, none⟩) 2 2] W8 fun e w' => ∃ v, e = .returned v ∧ RepoOwn w' w.heap.size v (C ++ [(M.mergeV (M.baseR C xn yn) (C.getD xn ([], [])).1 (C.getD yn ([], [])).1, [min (xn : Int) (yn : Int), max (xn : Int) (yn : Int)])]) (M.setH H kk C.length) ∧ Below W8.heap.size W8 w') :=
                    grown_any _ n cap C a2 n2 cap2 H kk ra _ rn rc 2 2 (_, [min (xn : Int) (yn : Int), max (xn : Int) (yn : Int)]) w.heap.size W8 ((HVW.out.later bW7).later b8) hr0 hkl (Nat.le_trans hb7.size b8.size) ⟨ownsRow_later HRo.out b8, by rw [hW8]; exact ownI_two w7 _ _ _ hb7.size, HLen.out, by simp⟩
                  have HW8 : Hid (W8 = w7.alloc (.cells #[.int .i64 (min (xn : Int) (yn : Int)), .int .i64 (max (xn : Int) (yn : Int))] 3)) := hW8
                  have hb8 : Below w.heap.size w W8 := hb7.trans (b8.mono hb7.size)
                  have r8 : W8.heap[R]? = some (.cells #[.slice none 0 0, .slice none 0 0] 25 (0, 0)) := (b8.block R (Array.getElem?_eq_some_iff.1 r7).1).trans r7
                  clear hW8 b8 r7
                  go_wp2_with fail
                  rw [← HW8.out]
                  refine KG.out.mono ?_
                  rintro e w9 ⟨v9, rfl, o9, b9⟩
                  have hb9 : Below w.heap.size w w9 := hb8.trans (b9.mono hb8.size)
                  have r9 : w9.heap[R]? = some (.cells #[.slice none 0 0, .slice none 0 0] 25 (0, 0)) := (b9.block R (Array.getElem?_eq_some_iff.1 r8).1).trans r8
                  obtain ⟨xa8, xc8, ya8, yc8, rfl, _⟩ := o9.v
                  generalize hln : (C ++ [(M.mergeV (M.baseR C xn yn) (C.getD xn ([], [])).1 (C.getD yn ([], [])).1, [min (xn : Int) (yn : Int), max (xn : Int) (yn : Int)])]).length = ln8 at *
                  generalize hlh : (M.setH H kk C.length).length = lh8 at *
                  obtain ⟨q1, q2, hqq, o91, o92⟩ := o9
                  obtain ⟨rfl, rfl⟩ : q1 = .slice xa8 ln8 xc8 ∧ q2 = .slice ya8 lh8 yc8 := by simp at hqq; exact ⟨hqq.1.symm, hqq.2.symm⟩
                  have HRO : Aside (RepoOwn ((w9.setCell ⟨R, 0, none⟩ (.slice xa8 ln8 xc8)).setCell ⟨R, 1, none⟩ (.slice ya8 lh8 yc8)) w.heap.size (.agg #[.slice xa8 ln8 xc8, .slice ya8 lh8 yc8]) (M.joinC C H s t) (M.joinH C H s t)) := by unfold Aside; rw [EC.out.1, EC.out.2.1]; exact repoOwn_set r9 o91 o92
                  obtain ⟨g1, g2, g3⟩ := res_set r9 (.slice xa8 ln8 xc8) (.slice ya8 lh8 yc8)
                  obtain ⟨X, hX⟩ : ∃ X, X = (w9.setCell ⟨R, 0, none⟩ (.slice xa8 ln8 xc8)).setCell ⟨R, 1, none⟩ (.slice ya8 lh8 yc8) := ⟨_, rfl⟩
                  rw [← hX] at g1 HRO
                  have bX : Below w.heap.size w X := by rw [hX]; exact (hb9.setCell (p := ⟨R, 0, none⟩) (by show _ ≤ R; have := HPR.out; omega) _).setCell (p := ⟨R, 1, none⟩) (by show _ ≤ R; have := HPR.out; omega) _
                  have HX9 : Hid (X = (w9.setCell ⟨R, 0, none⟩ (.slice xa8 ln8 xc8)).setCell ⟨R, 1, none⟩ (.slice ya8 lh8 yc8)) := hX
                  have HX0 : Aside (X.cell? ⟨R, 0, none⟩ = some (.slice xa8 ln8 xc8)) := by unfold Aside; rw [cell_of_row _ _ _ _ _ _ g1]; rfl
                  have HX1 : Aside (X.cell? ⟨R, 1, none⟩ = some (.slice ya8 lh8 yc8)) := by unfold Aside; rw [cell_of_row _ _ _ _ _ _ g1]; rfl
                  have x0 : w9.cell? ⟨R, 0, none⟩ = some (.slice none 0 0) := by rw [cell_of_row _ _ _ _ _ _ r9]; rfl
                  have x1 : w9.cell? ⟨R, 1, none⟩ = some (.slice none 0 0) := by rw [cell_of_row _ _ _ _ _ _ r9]; rfl
                  have f0 : w9.frozen? ⟨R, 0, none⟩ = false := frozen_of_row _ _ _ _ _ r9
                  have f1 : w9.frozen? ⟨R, 1, none⟩ = false := frozen_of_row _ _ _ _ _ r9
                  clear g1 g2 g3 hX r9 r8 o91 o92 hqq hln hlh b9 KG
                  go_wp2
                  rw [← HX9.out]
                  have y0 := HX0.out
                  have y1 := HX1.out
                  refine bodyPost_ret (v := .tuple #[.agg #[.slice xa8 ln8 xc8, .slice ya8 lh8 yc8], .slice none 0 0, .int .i64 0]) (by simp [results, Tryz.results58, go_sem, y0, y1]) rfl ?_
                  exact ⟨_, none, 0, 0, ret_three E0.out.symm, HRO.out, by rw [EC.out.2.2]; exact ⟨rfl, Or.inl rfl⟩, Nat.le_refl _, by simp [maxLen], bX⟩
                · have hk7 : kn ≠ 0 := hk0
                  have E7 : Aside (M.joinE C H s t = 7) := by unfold Aside; rw [HAt2.out.1, if_pos hk7]
                  obtain ⟨k1, rfl⟩ : ∃ k1, kn = k1 + 1 := ⟨kn - 1, by omega⟩
                  clear hk0 hk7
                  have HKj : Hid (Ri w7 kb (k1 + 1) (M.joinK C H s t)) := by unfold Hid; rw [HAt2.out.2]; exact HKr.out
                  have EC : Aside (M.joinC C H s t = [] ∧ M.joinH C H s t = [] ∧ M.joinK C H s t = M.joinK C H s t) := ⟨by unfold M.joinC; rw [if_pos (by rw [E7.out]; decide)], by unfold M.joinH; rw [if_pos (by rw [E7.out]; decide)], rfl⟩
                  obtain ⟨g1, g2, g3⟩ := res_set r7 (.slice none 0 0) (.slice none 0 0)
                  obtain ⟨X, hX⟩ : ∃ X, X = (w7.setCell ⟨R, 0, none⟩ (.slice none 0 0)).setCell ⟨R, 1, none⟩ (.slice none 0 0) := ⟨_, rfl⟩
                  have HKX : Hid (Ri X kb (k1 + 1) (M.joinK C H s t)) := by unfold Hid; rw [hX]; exact HKj.out.elsewhere r7 _ _
                  rw [← hX] at g1
                  have bX : Below w.heap.size w X := by rw [hX]; exact (hb7.setCell (p := ⟨R, 0, none⟩) (by show _ ≤ R; have := HPR.out; omega) _).setCell (p := ⟨R, 1, none⟩) (by show _ ≤ R; have := HPR.out; omega) _
                  have gX := g1
                  have HX9 : Hid (X = (w7.setCell ⟨R, 0, none⟩ (.slice none 0 0)).setCell ⟨R, 1, none⟩ (.slice none 0 0)) := hX
                  have HX0 : Aside (X.cell? ⟨R, 0, none⟩ = some (.slice none 0 0)) := by unfold Aside; rw [cell_of_row _ _ _ _ _ _ gX]; rfl
                  have HX1 : Aside (X.cell? ⟨R, 1, none⟩ = some (.slice none 0 0)) := by unfold Aside; rw [cell_of_row _ _ _ _ _ _ gX]; rfl
                  have x0 : w7.cell? ⟨R, 0, none⟩ = some (.slice none 0 0) := by rw [cell_of_row _ _ _ _ _ _ r7]; rfl
                  have x1 : w7.cell? ⟨R, 1, none⟩ = some (.slice none 0 0) := by rw [cell_of_row _ _ _ _ _ _ r7]; rfl
                  have f0 : w7.frozen? ⟨R, 0, none⟩ = false := frozen_of_row _ _ _ _ _ r7
                  have f1 : w7.frozen? ⟨R, 1, none⟩ = false := frozen_of_row _ _ _ _ _ r7
                  clear g1 g2 g3 hX gX r7 
                  go_wp2
                  rw [← HX9.out]
                  have y0 := HX0.out
                  have y1 := HX1.out
                  refine bodyPost_ret (v := .tuple #[.agg #[.slice none 0 0, .slice none 0 0], .slice kb (k1 + 1) kc, .int .i64 7]) (by simp [results, Tryz.results58, go_sem, y0, y1]) rfl ?_
                  refine ⟨_, kb, k1 + 1, kc, ret_three E7.out.symm, ?_, HKX.out, kle, kmx, bX⟩
                  rw [EC.out.1, EC.out.2.1]; exact RepoOwn.none _ _
              · have hEb : (E != 0) = true := by simp [hE0]
                have EE : Aside (M.joinE C H s t = E) := by unfold Aside; rw [HAt.out.1, ← HE.out, if_pos hE0]
                have EC : Aside (M.joinC C H s t = [] ∧ M.joinH C H s t = [] ∧ M.joinK C H s t = []) := ⟨by unfold M.joinC; rw [if_pos (by rw [EE.out]; exact hE0)], by unfold M.joinH; rw [if_pos (by rw [EE.out]; exact hE0)], by rw [HAt.out.2, ← HE.out, if_pos hE0]⟩
                clear hE0
                obtain ⟨g1, g2, g3⟩ := res_set r7 (.slice none 0 0) (.slice none 0 0)
                obtain ⟨X, hX⟩ : ∃ X, X = (w7.setCell ⟨R, 0, none⟩ (.slice none 0 0)).setCell ⟨R, 1, none⟩ (.slice none 0 0) := ⟨_, rfl⟩
                rw [← hX] at g1
                have bX : Below w.heap.size w X := by rw [hX]; exact (hb7.setCell (p := ⟨R, 0, none⟩) (by show _ ≤ R; have := HPR.out; omega) _).setCell (p := ⟨R, 1, none⟩) (by show _ ≤ R; have := HPR.out; omega) _
                have gX := g1
                have HX9 : Hid (X = (w7.setCell ⟨R, 0, none⟩ (.slice none 0 0)).setCell ⟨R, 1, none⟩ (.slice none 0 0)) := hX
                have HX0 : Aside (X.cell? ⟨R, 0, none⟩ = some (.slice none 0 0)) := by unfold Aside; rw [cell_of_row _ _ _ _ _ _ gX]; rfl
                have HX1 : Aside (X.cell? ⟨R, 1, none⟩ = some (.slice none 0 0)) := by unfold Aside; rw [cell_of_row _ _ _ _ _ _ gX]; rfl
                have x0 : w7.cell? ⟨R, 0, none⟩ = some (.slice none 0 0) := by rw [cell_of_row _ _ _ _ _ _ r7]; rfl
                have x1 : w7.cell? ⟨R, 1, none⟩ = some (.slice none 0 0) := by rw [cell_of_row _ _ _ _ _ _ r7]; rfl
                have f0 : w7.frozen? ⟨R, 0, none⟩ = false := frozen_of_row _ _ _ _ _ r7
                have f1 : w7.frozen? ⟨R, 1, none⟩ = false := frozen_of_row _ _ _ _ _ r7
                clear g1 g2 g3 hX gX r7 
                go_wp2
                rw [← HX9.out]
                have y0 := HX0.out
                have y1 := HX1.out
                refine bodyPost_ret (v := .tuple #[.agg #[.slice none 0 0, .slice none 0 0], .slice none 0 0, .int .i64 E]) (by simp [results, Tryz.results58, go_sem, y0, y1]) rfl ?_
                refine ⟨_, none, 0, 0, ret_three EE.out.symm, ?_, ?_, Nat.le_refl _, by simp [maxLen], bX⟩
                · rw [EC.out.1, EC.out.2.1]; exact RepoOwn.none _ _
                · rw [EC.out.2.2]; exact ⟨rfl, Or.inl rfl⟩
            · obtain ⟨l1, rfl⟩ : ∃ l1, ln = l1 + 1 := ⟨ln - 1, by omega⟩
              obtain ⟨lb, lo, rfl, hlc⟩ : ∃ lb lo, la = some ⟨lb, lo, none⟩ ∧ w6.cell? ⟨lb, lo + l1, none⟩ = some (.int .i64 (Bs.getD l1 0)) := by
                rcases HRl.out.cases with ⟨h0, _⟩ | ⟨lb, lo, e, _, _, _, hc⟩
                · omega
                · exact ⟨lb, lo, e, hc l1 (by omega)⟩
              have hBl : l1 < Bs.length := by have := HLn.out; omega
              have hbv := HBin.out.1 (Bs.getD l1 0) (by simp [List.getD, hBl])
              obtain ⟨bx, hbx⟩ : ∃ bx : Nat, Bs.getD l1 0 = (bx : Int) := ⟨(Bs.getD l1 0).toNat, by omega⟩
              rw [hbx] at hlc hbv
              have hbxn : bx < n := by omega
              have hbxi : (bx : Int) < (n : Int) := by omega
              obtain ⟨b', off', he', _, ba, bn, bc, ba', bn', bc', q0, q1, p0, p1, hbn, hbn'⟩ := HJ6.out.cm.nth hbxn
              cases he'
              have HRb : Hid (Rd w6 ba bn (M.baseR C xn yn)) := by
                unfold Hid
                rw [HBR.out, if_neg (by omega), show Bs.length - 1 = l1 by have := HLn.out; omega, hbx]
                exact p0
              have hl1w : IntKind.i64.wrap (((l1 + 1 : Nat) : Int) - 1) = (l1 : Int) := by rw [IntKind.wrap_i64]; omega
              clear hbv hbx p0 p1 q1 o6 hBl hl0
              go_wp2_with fail
              go_quiet (fail)
              have bV6 : Below w6.heap.size w6 (w6.drewN nq) := drewN_below w6 nq
              obtain ⟨V6, hV6⟩ : ∃ V6, V6 = w6.drewN nq := ⟨_, rfl⟩
              rw [← hV6] at bV6 ⊢
              clear hV6 hlc q0
              clear hbxi hbxn
              obtain ⟨E, hE⟩ : ∃ E, E = M.mergeE (M.baseR C xn yn) (C.getD xn ([], [])).1 (C.getD yn ([], [])).1 := ⟨_, rfl⟩
              have KM : Hid (∀ U, Below V6.heap.size V6 U → Calls Tryz.prog 106 #[.slice ba bn bc, .slice a1 n1 c1, .slice a3 n3 c3] U fun e w' => Hands3O U w' (M.mergeV (M.baseR C xn yn) (C.getD xn ([], [])).1 (C.getD yn ([], [])).1) (M.mergeK (M.baseR C xn yn) (C.getD xn ([], [])).1 (C.getD yn ([], [])).1) E e) := fun U hU => by
                rw [hE]
                exact mergeOf_own ba a1 a3 bn n1 n3 bc c1 c3 _ _ _ U (HRb.out.below (bV6.trans (hU.mono bV6.size)) (Nat.le_refl _)) (HS1.out.below (bV6.trans (hU.mono bV6.size)) (Nat.le_refl _)) (HS3.out.below (bV6.trans (hU.mono bV6.size)) (Nat.le_refl _)) hbn m1 m3
              have HE : Aside (E = M.mergeE (M.baseR C xn yn) (C.getD xn ([], [])).1 (C.getD yn ([], [])).1) := hE
              have HBd : Hid (Below V6.heap.size V6 V6.drew) := (Below.refl _ _).drew
              have HSU : Hid (∀ U, Below V6.heap.size V6 U → U.cell? ⟨p, 0, none⟩ = some (.slice (some ⟨b, off, none⟩) n cap) ∧ U.cell? ⟨b, off + xn * 2, none⟩ = some (.slice a1 n1 c1) ∧ U.cell? ⟨b, off + yn * 2, none⟩ = some (.slice a3 n3 c3)) := fun U hU => HSV.out U (bV6.trans (hU.mono bV6.size))
              clear hE
              go_wp2_with fail
              refine wp_region_till 20 (fun V => V.cell? ⟨p, 0, none⟩ = some (.slice (some ⟨b, off, none⟩) n cap) ∧ V.cell? ⟨b, off + xn * 2, none⟩ = some (.slice a1 n1 c1) ∧ V.cell? ⟨b, off + yn * 2, none⟩ = some (.slice a3 n3 c3)) (by kernel_rfl) (HSU.out _ HBd.out) (fun hHeld => ?_)
              refine till_go 0 (v := .slice ba bn bc) rfl (by decide) (by kernel_rfl) (by kernel_rfl) (by kernel_rfl) (fun _ _ _ h => h) (Or.inl ⟨by rfl, fun V _ => (by go_simp)⟩) hHeld ?_
              try simp only [Act.put]
              refine till_go 1 (v := .pointer (some ⟨p, 0, none⟩)) rfl (by decide) (by kernel_rfl) (by kernel_rfl) (by kernel_rfl) (fun _ _ _ h => h) (Or.inl ⟨by rfl, fun V _ => (by go_simp)⟩) hHeld ?_
              try simp only [Act.put]
              refine till_take 2 (v := .slice (some ⟨b, off, none⟩) n cap) rfl (by decide) (by kernel_rfl) (by kernel_rfl) (by kernel_rfl) (by kernel_rfl) (by kernel_rfl) (fun _ _ _ h => h) (Or.inl ⟨by rfl, fun V hV => (by obtain ⟨v0, v1, v2⟩ := hV; go_simp)⟩) hHeld ?_
              try simp only [Act.put]
              refine till_go 3 (v := .int .i64 (xn : Int)) rfl (by decide) (by kernel_rfl) (by kernel_rfl) (by kernel_rfl) (fun _ _ _ h => h) (Or.inl ⟨by rfl, fun V _ => (by go_simp)⟩) hHeld ?_
              try simp only [Act.put]
              refine till_go 4 (v := .pointer (some ⟨b, off + xn * 2, none⟩)) rfl (by decide) (by kernel_rfl) (by kernel_rfl) (by kernel_rfl) (fun _ _ _ h => h) (Or.inl ⟨by rfl, fun V _ => (by go_simp)⟩) hHeld ?_
              try simp only [Act.put]
              refine till_go 5 (v := .pointer (some ⟨b, off + xn * 2, none⟩)) rfl (by decide) (by kernel_rfl) (by kernel_rfl) (by kernel_rfl) (fun _ _ _ h => h) (Or.inl ⟨by rfl, fun V _ => (by go_simp)⟩) hHeld ?_
              try simp only [Act.put]
              refine till_take 6 (v := .slice a1 n1 c1) rfl (by decide) (by kernel_rfl) (by kernel_rfl) (by kernel_rfl) (by kernel_rfl) (by kernel_rfl) (fun _ _ _ h => h) (Or.inl ⟨by rfl, fun V hV => (by obtain ⟨v0, v1, v2⟩ := hV; go_simp)⟩) hHeld ?_
              try simp only [Act.put]
              refine till_go 7 (v := .pointer (some ⟨p, 0, none⟩)) rfl (by decide) (by kernel_rfl) (by kernel_rfl) (by kernel_rfl) (fun _ _ _ h => h) (Or.inl ⟨by rfl, fun V _ => (by go_simp)⟩) hHeld ?_
              try simp only [Act.put]
              refine till_take 8 (v := .slice (some ⟨b, off, none⟩) n cap) rfl (by decide) (by kernel_rfl) (by kernel_rfl) (by kernel_rfl) (by kernel_rfl) (by kernel_rfl) (fun _ _ _ h => h) (Or.inl ⟨by rfl, fun V hV => (by obtain ⟨v0, v1, v2⟩ := hV; go_simp)⟩) hHeld ?_
              try simp only [Act.put]
              refine till_go 9 (v := .int .i64 (yn : Int)) rfl (by decide) (by kernel_rfl) (by kernel_rfl) (by kernel_rfl) (fun _ _ _ h => h) (Or.inl ⟨by rfl, fun V _ => (by go_simp)⟩) hHeld ?_
              try simp only [Act.put]
              refine till_go 10 (v := .pointer (some ⟨b, off + yn * 2, none⟩)) rfl (by decide) (by kernel_rfl) (by kernel_rfl) (by kernel_rfl) (fun _ _ _ h => h) (Or.inl ⟨by rfl, fun V _ => (by go_simp)⟩) hHeld ?_
              try simp only [Act.put]
              refine till_go 11 (v := .pointer (some ⟨b, off + yn * 2, none⟩)) rfl (by decide) (by kernel_rfl) (by kernel_rfl) (by kernel_rfl) (fun _ _ _ h => h) (Or.inl ⟨by rfl, fun V _ => (by go_simp)⟩) hHeld ?_
              try simp only [Act.put]
              refine till_take 12 (v := .slice a3 n3 c3) rfl (by decide) (by kernel_rfl) (by kernel_rfl) (by kernel_rfl) (by kernel_rfl) (by kernel_rfl) (fun _ _ _ h => h) (Or.inl ⟨by rfl, fun V hV => (by obtain ⟨v0, v1, v2⟩ := hV; go_simp)⟩) hHeld ?_
              try simp only [Act.put]
              refine till_step 13 rfl (by decide) (by kernel_rfl) (fun K hK => ?_)
              go_simp
              go_wp2_with (go_at_call 106; refine (KM.out _ HBd.out).mono ?_; rintro e w7 ⟨ra, rn, rc, kb, kn, kc, rfl, rr, rle, rmx, ⟨rnil, ro⟩, kr, kle, kmx, b7⟩)
              have q7 : Below V6.heap.size V6 w7 := HBd.out.trans b7
              refine hK.out _ _ (HSU.out _ q7) (fun hHeld => ?_)
              clear hK K
              refine till_go 14 (v := .tuple #[.slice ra rn rc, .slice kb kn kc, .int .i64 E]) rfl (by decide) (by kernel_rfl) (by kernel_rfl) (by kernel_rfl) (fun _ _ _ h => h) (Or.inl ⟨by rfl, fun V _ => (by go_simp)⟩) hHeld ?_
              try simp only [Act.put]
              refine till_go 15 (v := .slice ra rn rc) rfl (by decide) (by kernel_rfl) (by kernel_rfl) (by kernel_rfl) (fun _ _ _ h => h) (Or.inl ⟨by rfl, fun V _ => (by go_simp)⟩) hHeld ?_
              try simp only [Act.put]
              refine till_go 16 (v := .slice kb kn kc) rfl (by decide) (by kernel_rfl) (by kernel_rfl) (by kernel_rfl) (fun _ _ _ h => h) (Or.inl ⟨by rfl, fun V _ => (by go_simp)⟩) hHeld ?_
              try simp only [Act.put]
              refine till_go 17 (v := .int .i64 E) rfl (by decide) (by kernel_rfl) (by kernel_rfl) (by kernel_rfl) (fun _ _ _ h => h) (Or.inl ⟨by rfl, fun V _ => (by go_simp)⟩) hHeld ?_
              try simp only [Act.put]
              refine till_go 18 (v := .slice ra rn rc) rfl (by decide) (by kernel_rfl) (by kernel_rfl) (by kernel_rfl) (fun _ _ _ h => h) (Or.inl ⟨by rfl, fun V _ => (by go_simp)⟩) hHeld ?_
              try simp only [Act.put]
              refine till_go 19 (v := .slice kb kn kc) rfl (by decide) (by kernel_rfl) (by kernel_rfl) (by kernel_rfl) (fun _ _ _ h => h) (Or.inl ⟨by rfl, fun V _ => (by go_simp)⟩) hHeld ?_
              try simp only [Act.put]
              refine till_last rfl (by kernel_rfl) (by kernel_rfl) (fun K hK => ?_) _
              go_simp
              refine hK.out _ _ ?_
              clear hK K
              have hb7 : Below w.heap.size w w7 := hb6.trans ((bV6.trans (q7.mono bV6.size)).mono hb6.size)
              have r7 : w7.heap[R]? = some (.cells #[.slice none 0 0, .slice none 0 0] 25 (0, 0)) := ((bV6.trans (q7.mono bV6.size)).block R (Array.getElem?_eq_some_iff.1 r6).1).trans r6
              have bW7 : Below W.heap.size W w7 := bW6.trans ((bV6.trans (q7.mono bV6.size)).mono bW6.size)
              have u7 := (HI.out.below bW7).c0
              have v7 := (HI.out.below bW7).c1
              have hV7 : w.heap.size ≤ V6.heap.size := (hb6.trans (bV6.mono hb6.size)).size
              have ro7 : Own w7 w.heap.size (.slice ra rn rc) (M.mergeV (M.baseR C xn yn) (C.getD xn ([], [])).1 (C.getD yn ([], [])).1) := Own.lower ro (by simpa using hV7)
              have HRo : Hid (Own w7 w.heap.size (.slice ra rn rc) (M.mergeV (M.baseR C xn yn) (C.getD xn ([], [])).1 (C.getD yn ([], [])).1)) := ro7
              have HKr : Hid (Ri w7 kb kn (M.mergeK (M.baseR C xn yn) (C.getD xn ([], [])).1 (C.getD yn ([], [])).1)) := kr
              clear ro ro7 rr rnil b7 q7 u6 v6 r6 KM HSU HSV hHeld
              by_cases hE0 : E = 0
              · subst hE0
                have hkl0 : (M.mergeK (M.baseR C xn yn) (C.getD xn ([], [])).1 (C.getD yn ([], [])).1).length = kn := HKr.out.1
                have hAt := HAt.out
                obtain ⟨hA1, hA2⟩ := hAt
                rw [if_neg (fun h => h HE.out.symm), hkl0] at hA1
                rw [if_neg (fun h => h HE.out.symm)] at hA2
                have HAt2 : Hid (M.joinE C H s t = (if kn ≠ 0 then 7 else 0) ∧ M.joinK C H s t = M.mergeK (M.baseR C xn yn) (C.getD xn ([], [])).1 (C.getD yn ([], [])).1) := ⟨hA1, hA2⟩
                clear hA1 hA2 hkl0
                by_cases hk0 : kn = 0
                · subst hk0
                  have E0 : Aside (M.joinE C H s t = 0) := by unfold Aside; rw [HAt2.out.1]; simp
                  have hg0 : (M.above C (M.hat C H t).toNat).getD (M.hat C H s).toNat false = false := by rw [← HX.out, ← HY.out]; exact HG2.out.symm
                  have EC : Aside (M.joinC C H s t = C ++ [(M.mergeV (M.baseR C xn yn) (C.getD xn ([], [])).1 (C.getD yn ([], [])).1, [min (xn : Int) (yn : Int), max (xn : Int) (yn : Int)])] ∧ M.joinH C H s t = M.setH H kk C.length ∧ M.joinK C H s t = []) := by
                    refine ⟨?_, ?_, ?_⟩
                    · unfold M.joinC
                      rw [if_neg (fun h => h E0.out), if_neg (by rw [hg0]; simp), ← HX.out, ← HY.out]; rfl
                    · unfold M.joinH
                      rw [if_neg (fun h => h E0.out), if_neg (by rw [hg0]; simp)]
                      unfold M.mv M.setH
                      rw [HKK.out]; rfl
                    · rw [HAt2.out.2]
                      exact List.eq_nil_of_length_eq_zero HKr.out.1
                  have HLen : Aside ((M.mergeV (M.baseR C xn yn) (C.getD xn ([], [])).1 (C.getD yn ([], [])).1).length ≤ 1000000) := by have := M.mergeV_len HE.out.symm; unfold Aside; omega
                  obtain ⟨W8, hW8⟩ : ∃ W8, W8 = w7.alloc (.cells #[.int .i64 (min (xn : Int) (yn : Int)), .int .i64 (max (xn : Int) (yn : Int))] 3) := ⟨_, rfl⟩
                  have b8 : Below w7.heap.size w7 W8 := by rw [hW8]; exact (Below.refl _ _).alloc (Nat.le_refl _) _
                  have KG : Hid (Calls Tryz.prog 100 #[.agg #[.slice (some ⟨b, off, none⟩) n cap, .slice a2 n2 cap2], .int .i64 (kk : Int), .slice ra rn rc, .slice (some ⟨w7.heap.size, 0, none⟩) 2 2] W8 fun e w' => ∃ v, e = .returned v ∧ RepoOwn w' w.heap.size v (C ++ [(M.mergeV (M.baseR C xn yn) (C.getD xn ([], [])).1 (C.getD yn ([], [])).1, [min (xn : Int) (yn : Int), max (xn : Int) (yn : Int)])]) (M.setH H kk C.length) ∧ Below W8.heap.size W8 w') :=
                    grown_any _ n cap C a2 n2 cap2 H kk ra _ rn rc 2 2 (_, [min (xn : Int) (yn : Int), max (xn : Int) (yn : Int)]) w.heap.size W8 ((HVW.out.later bW7).later b8) hr0 hkl (Nat.le_trans hb7.size b8.size) ⟨ownsRow_later HRo.out b8, by rw [hW8]; exact ownI_two w7 _ _ _ hb7.size, HLen.out, by simp⟩
                  have HW8 : Hid (W8 = w7.alloc (.cells #[.int .i64 (min (xn : Int) (yn : Int)), .int .i64 (max (xn : Int) (yn : Int))] 3)) := hW8
                  have hb8 : Below w.heap.size w W8 := hb7.trans (b8.mono hb7.size)
                  have r8 : W8.heap[R]? = some (.cells #[.slice none 0 0, .slice none 0 0] 25 (0, 0)) := (b8.block R (Array.getElem?_eq_some_iff.1 r7).1).trans r7
                  clear hW8 b8 r7
                  go_wp2_with fail
                  rw [← HW8.out]
                  refine KG.out.mono ?_
                  rintro e w9 ⟨v9, rfl, o9, b9⟩
                  have hb9 : Below w.heap.size w w9 := hb8.trans (b9.mono hb8.size)
                  have r9 : w9.heap[R]? = some (.cells #[.slice none 0 0, .slice none 0 0] 25 (0, 0)) := (b9.block R (Array.getElem?_eq_some_iff.1 r8).1).trans r8
                  obtain ⟨xa8, xc8, ya8, yc8, rfl, _⟩ := o9.v
                  generalize hln : (C ++ [(M.mergeV (M.baseR C xn yn) (C.getD xn ([], [])).1 (C.getD yn ([], [])).1, [min (xn : Int) (yn : Int), max (xn : Int) (yn : Int)])]).length = ln8 at *
                  generalize hlh : (M.setH H kk C.length).length = lh8 at *
                  obtain ⟨q1, q2, hqq, o91, o92⟩ := o9
                  obtain ⟨rfl, rfl⟩ : q1 = .slice xa8 ln8 xc8 ∧ q2 = .slice ya8 lh8 yc8 := by simp at hqq; exact ⟨hqq.1.symm, hqq.2.symm⟩
                  have HRO : Aside (RepoOwn ((w9.setCell ⟨R, 0, none⟩ (.slice xa8 ln8 xc8)).setCell ⟨R, 1, none⟩ (.slice ya8 lh8 yc8)) w.heap.size (.agg #[.slice xa8 ln8 xc8, .slice ya8 lh8 yc8]) (M.joinC C H s t) (M.joinH C H s t)) := by unfold Aside; rw [EC.out.1, EC.out.2.1]; exact repoOwn_set r9 o91 o92
                  obtain ⟨g1, g2, g3⟩ := res_set r9 (.slice xa8 ln8 xc8) (.slice ya8 lh8 yc8)
                  obtain ⟨X, hX⟩ : ∃ X, X = (w9.setCell ⟨R, 0, none⟩ (.slice xa8 ln8 xc8)).setCell ⟨R, 1, none⟩ (.slice ya8 lh8 yc8) := ⟨_, rfl⟩
                  rw [← hX] at g1 HRO
                  have bX : Below w.heap.size w X := by rw [hX]; exact (hb9.setCell (p := ⟨R, 0, none⟩) (by show _ ≤ R; have := HPR.out; omega) _).setCell (p := ⟨R, 1, none⟩) (by show _ ≤ R; have := HPR.out; omega) _
                  have HX9 : Hid (X = (w9.setCell ⟨R, 0, none⟩ (.slice xa8 ln8 xc8)).setCell ⟨R, 1, none⟩ (.slice ya8 lh8 yc8)) := hX
                  have HX0 : Aside (X.cell? ⟨R, 0, none⟩ = some (.slice xa8 ln8 xc8)) := by unfold Aside; rw [cell_of_row _ _ _ _ _ _ g1]; rfl
                  have HX1 : Aside (X.cell? ⟨R, 1, none⟩ = some (.slice ya8 lh8 yc8)) := by unfold Aside; rw [cell_of_row _ _ _ _ _ _ g1]; rfl
                  have x0 : w9.cell? ⟨R, 0, none⟩ = some (.slice none 0 0) := by rw [cell_of_row _ _ _ _ _ _ r9]; rfl
                  have x1 : w9.cell? ⟨R, 1, none⟩ = some (.slice none 0 0) := by rw [cell_of_row _ _ _ _ _ _ r9]; rfl
                  have f0 : w9.frozen? ⟨R, 0, none⟩ = false := frozen_of_row _ _ _ _ _ r9
                  have f1 : w9.frozen? ⟨R, 1, none⟩ = false := frozen_of_row _ _ _ _ _ r9
                  clear g1 g2 g3 hX r9 r8 o91 o92 hqq hln hlh b9 KG
                  go_wp2
                  rw [← HX9.out]
                  have y0 := HX0.out
                  have y1 := HX1.out
                  refine bodyPost_ret (v := .tuple #[.agg #[.slice xa8 ln8 xc8, .slice ya8 lh8 yc8], .slice none 0 0, .int .i64 0]) (by simp [results, Tryz.results58, go_sem, y0, y1]) rfl ?_
                  exact ⟨_, none, 0, 0, ret_three E0.out.symm, HRO.out, by rw [EC.out.2.2]; exact ⟨rfl, Or.inl rfl⟩, Nat.le_refl _, by simp [maxLen], bX⟩
                · have hk7 : kn ≠ 0 := hk0
                  have E7 : Aside (M.joinE C H s t = 7) := by unfold Aside; rw [HAt2.out.1, if_pos hk7]
                  obtain ⟨k1, rfl⟩ : ∃ k1, kn = k1 + 1 := ⟨kn - 1, by omega⟩
                  clear hk0 hk7
                  have HKj : Hid (Ri w7 kb (k1 + 1) (M.joinK C H s t)) := by unfold Hid; rw [HAt2.out.2]; exact HKr.out
                  have EC : Aside (M.joinC C H s t = [] ∧ M.joinH C H s t = [] ∧ M.joinK C H s t = M.joinK C H s t) := ⟨by unfold M.joinC; rw [if_pos (by rw [E7.out]; decide)], by unfold M.joinH; rw [if_pos (by rw [E7.out]; decide)], rfl⟩
                  obtain ⟨g1, g2, g3⟩ := res_set r7 (.slice none 0 0) (.slice none 0 0)
                  obtain ⟨X, hX⟩ : ∃ X, X = (w7.setCell ⟨R, 0, none⟩ (.slice none 0 0)).setCell ⟨R, 1, none⟩ (.slice none 0 0) := ⟨_, rfl⟩
                  have HKX : Hid (Ri X kb (k1 + 1) (M.joinK C H s t)) := by unfold Hid; rw [hX]; exact HKj.out.elsewhere r7 _ _
                  rw [← hX] at g1
                  have bX : Below w.heap.size w X := by rw [hX]; exact (hb7.setCell (p := ⟨R, 0, none⟩) (by show _ ≤ R; have := HPR.out; omega) _).setCell (p := ⟨R, 1, none⟩) (by show _ ≤ R; have := HPR.out; omega) _
                  have gX := g1
                  have HX9 : Hid (X = (w7.setCell ⟨R, 0, none⟩ (.slice none 0 0)).setCell ⟨R, 1, none⟩ (.slice none 0 0)) := hX
                  have HX0 : Aside (X.cell? ⟨R, 0, none⟩ = some (.slice none 0 0)) := by unfold Aside; rw [cell_of_row _ _ _ _ _ _ gX]; rfl
                  have HX1 : Aside (X.cell? ⟨R, 1, none⟩ = some (.slice none 0 0)) := by unfold Aside; rw [cell_of_row _ _ _ _ _ _ gX]; rfl
                  have x0 : w7.cell? ⟨R, 0, none⟩ = some (.slice none 0 0) := by rw [cell_of_row _ _ _ _ _ _ r7]; rfl
                  have x1 : w7.cell? ⟨R, 1, none⟩ = some (.slice none 0 0) := by rw [cell_of_row _ _ _ _ _ _ r7]; rfl
                  have f0 : w7.frozen? ⟨R, 0, none⟩ = false := frozen_of_row _ _ _ _ _ r7
                  have f1 : w7.frozen? ⟨R, 1, none⟩ = false := frozen_of_row _ _ _ _ _ r7
                  clear g1 g2 g3 hX gX r7 
                  go_wp2
                  rw [← HX9.out]
                  have y0 := HX0.out
                  have y1 := HX1.out
                  refine bodyPost_ret (v := .tuple #[.agg #[.slice none 0 0, .slice none 0 0], .slice kb (k1 + 1) kc, .int .i64 7]) (by simp [results, Tryz.results58, go_sem, y0, y1]) rfl ?_
                  refine ⟨_, kb, k1 + 1, kc, ret_three E7.out.symm, ?_, HKX.out, kle, kmx, bX⟩
                  rw [EC.out.1, EC.out.2.1]; exact RepoOwn.none _ _
              · have hEb : (E != 0) = true := by simp [hE0]
                have EE : Aside (M.joinE C H s t = E) := by unfold Aside; rw [HAt.out.1, ← HE.out, if_pos hE0]
                have EC : Aside (M.joinC C H s t = [] ∧ M.joinH C H s t = [] ∧ M.joinK C H s t = []) := ⟨by unfold M.joinC; rw [if_pos (by rw [EE.out]; exact hE0)], by unfold M.joinH; rw [if_pos (by rw [EE.out]; exact hE0)], by rw [HAt.out.2, ← HE.out, if_pos hE0]⟩
                clear hE0
                obtain ⟨g1, g2, g3⟩ := res_set r7 (.slice none 0 0) (.slice none 0 0)
                obtain ⟨X, hX⟩ : ∃ X, X = (w7.setCell ⟨R, 0, none⟩ (.slice none 0 0)).setCell ⟨R, 1, none⟩ (.slice none 0 0) := ⟨_, rfl⟩
                rw [← hX] at g1
                have bX : Below w.heap.size w X := by rw [hX]; exact (hb7.setCell (p := ⟨R, 0, none⟩) (by show _ ≤ R; have := HPR.out; omega) _).setCell (p := ⟨R, 1, none⟩) (by show _ ≤ R; have := HPR.out; omega) _
                have gX := g1
                have HX9 : Hid (X = (w7.setCell ⟨R, 0, none⟩ (.slice none 0 0)).setCell ⟨R, 1, none⟩ (.slice none 0 0)) := hX
                have HX0 : Aside (X.cell? ⟨R, 0, none⟩ = some (.slice none 0 0)) := by unfold Aside; rw [cell_of_row _ _ _ _ _ _ gX]; rfl
                have HX1 : Aside (X.cell? ⟨R, 1, none⟩ = some (.slice none 0 0)) := by unfold Aside; rw [cell_of_row _ _ _ _ _ _ gX]; rfl
                have x0 : w7.cell? ⟨R, 0, none⟩ = some (.slice none 0 0) := by rw [cell_of_row _ _ _ _ _ _ r7]; rfl
                have x1 : w7.cell? ⟨R, 1, none⟩ = some (.slice none 0 0) := by rw [cell_of_row _ _ _ _ _ _ r7]; rfl
                have f0 : w7.frozen? ⟨R, 0, none⟩ = false := frozen_of_row _ _ _ _ _ r7
                have f1 : w7.frozen? ⟨R, 1, none⟩ = false := frozen_of_row _ _ _ _ _ r7
                clear g1 g2 g3 hX gX r7 
                go_wp2
                rw [← HX9.out]
                have y0 := HX0.out
                have y1 := HX1.out
                refine bodyPost_ret (v := .tuple #[.agg #[.slice none 0 0, .slice none 0 0], .slice none 0 0, .int .i64 E]) (by simp [results, Tryz.results58, go_sem, y0, y1]) rfl ?_
                refine ⟨_, none, 0, 0, ret_three EE.out.symm, ?_, ?_, Nat.le_refl _, by simp [maxLen], bX⟩
                · rw [EC.out.1, EC.out.2.1]; exact RepoOwn.none _ _
                · rw [EC.out.2.2]; exact ⟨rfl, Or.inl rfl⟩
    · have hzb : (z2 != 0) = true := by simp [hz20]
      have EE : Aside (M.joinE C H s t = z2) := by unfold Aside; rw [(M.join_other HZ0.out (by rw [← HZ2.out]; exact hz20)).1, HZ2.out]
      have EC : Aside (M.joinC C H s t = [] ∧ M.joinH C H s t = [] ∧ M.joinK C H s t = []) := ⟨by unfold M.joinC; rw [if_pos (by rw [EE.out]; exact hz20)], by unfold M.joinH; rw [if_pos (by rw [EE.out]; exact hz20)], (M.join_other HZ0.out (by rw [← HZ2.out]; exact hz20)).2⟩
      clear hz20 J2
      obtain ⟨g1, g2, g3⟩ := res_set r2 (.slice none 0 0) (.slice none 0 0)
      obtain ⟨X, hX⟩ : ∃ X, X = (w2.setCell ⟨R, 0, none⟩ (.slice none 0 0)).setCell ⟨R, 1, none⟩ (.slice none 0 0) := ⟨_, rfl⟩
      rw [← hX] at g1
      have bX : Below w.heap.size w X := by rw [hX]; exact (hb2.setCell (p := ⟨R, 0, none⟩) (by show _ ≤ R; have := HPR.out; omega) _).setCell (p := ⟨R, 1, none⟩) (by show _ ≤ R; have := HPR.out; omega) _
      have gX := g1
      have HX9 : Hid (X = (w2.setCell ⟨R, 0, none⟩ (.slice none 0 0)).setCell ⟨R, 1, none⟩ (.slice none 0 0)) := hX
      have HX0 : Aside (X.cell? ⟨R, 0, none⟩ = some (.slice none 0 0)) := by unfold Aside; rw [cell_of_row _ _ _ _ _ _ gX]; rfl
      have HX1 : Aside (X.cell? ⟨R, 1, none⟩ = some (.slice none 0 0)) := by unfold Aside; rw [cell_of_row _ _ _ _ _ _ gX]; rfl
      have x0 : w2.cell? ⟨R, 0, none⟩ = some (.slice none 0 0) := by rw [cell_of_row _ _ _ _ _ _ r2]; rfl
      have x1 : w2.cell? ⟨R, 1, none⟩ = some (.slice none 0 0) := by rw [cell_of_row _ _ _ _ _ _ r2]; rfl
      have f0 : w2.frozen? ⟨R, 0, none⟩ = false := frozen_of_row _ _ _ _ _ r2
      have f1 : w2.frozen? ⟨R, 1, none⟩ = false := frozen_of_row _ _ _ _ _ r2
      clear g1 g2 g3 hX gX r2 
      go_wp2
      rw [← HX9.out]
      have y0 := HX0.out
      have y1 := HX1.out
      refine bodyPost_ret (v := .tuple #[.agg #[.slice none 0 0, .slice none 0 0], .slice none 0 0, .int .i64 z2]) (by simp [results, Tryz.results58, go_sem, y0, y1]) rfl ?_
      refine ⟨_, none, 0, 0, ret_three EE.out.symm, ?_, ?_, Nat.le_refl _, by simp [maxLen], bX⟩
      · rw [EC.out.1, EC.out.2.1]; exact RepoOwn.none _ _
      · rw [EC.out.2.2]; exact ⟨rfl, Or.inl rfl⟩
  · have hzb : (z != 0) = true := by simp [hz0]
    have EE : Aside (M.joinE C H s t = z) := by unfold Aside; rw [(M.join_one (by rw [← HZ.out]; exact hz0)).1, HZ.out]
    have EC : Aside (M.joinC C H s t = [] ∧ M.joinH C H s t = [] ∧ M.joinK C H s t = []) := ⟨by unfold M.joinC; rw [if_pos (by rw [EE.out]; exact hz0)], by unfold M.joinH; rw [if_pos (by rw [EE.out]; exact hz0)], (M.join_one (by rw [← HZ.out]; exact hz0)).2⟩
    clear hz0 J1 u1 v1 c0 c1 KH
    obtain ⟨g1, g2, g3⟩ := res_set r1 (.slice none 0 0) (.slice none 0 0)
    obtain ⟨X, hX⟩ : ∃ X, X = (w1.setCell ⟨R, 0, none⟩ (.slice none 0 0)).setCell ⟨R, 1, none⟩ (.slice none 0 0) := ⟨_, rfl⟩
    rw [← hX] at g1
    have bX : Below w.heap.size w X := by rw [hX]; exact (hb1.setCell (p := ⟨R, 0, none⟩) (by show _ ≤ R; have := HPR.out; omega) _).setCell (p := ⟨R, 1, none⟩) (by show _ ≤ R; have := HPR.out; omega) _
    have gX := g1
    have HX9 : Hid (X = (w1.setCell ⟨R, 0, none⟩ (.slice none 0 0)).setCell ⟨R, 1, none⟩ (.slice none 0 0)) := hX
    have HX0 : Aside (X.cell? ⟨R, 0, none⟩ = some (.slice none 0 0)) := by unfold Aside; rw [cell_of_row _ _ _ _ _ _ gX]; rfl
    have HX1 : Aside (X.cell? ⟨R, 1, none⟩ = some (.slice none 0 0)) := by unfold Aside; rw [cell_of_row _ _ _ _ _ _ gX]; rfl
    have x0 : w1.cell? ⟨R, 0, none⟩ = some (.slice none 0 0) := by rw [cell_of_row _ _ _ _ _ _ r1]; rfl
    have x1 : w1.cell? ⟨R, 1, none⟩ = some (.slice none 0 0) := by rw [cell_of_row _ _ _ _ _ _ r1]; rfl
    have f0 : w1.frozen? ⟨R, 0, none⟩ = false := frozen_of_row _ _ _ _ _ r1
    have f1 : w1.frozen? ⟨R, 1, none⟩ = false := frozen_of_row _ _ _ _ _ r1
    clear g1 g2 g3 hX gX r1 
    go_wp2
    rw [← HX9.out]
    have y0 := HX0.out
    have y1 := HX1.out
    refine bodyPost_ret (v := .tuple #[.agg #[.slice none 0 0, .slice none 0 0], .slice none 0 0, .int .i64 z]) (by simp [results, Tryz.results58, go_sem, y0, y1]) rfl ?_
    refine ⟨_, none, 0, 0, ret_three EE.out.symm, ?_, ?_, Nat.le_refl _, by simp [maxLen], bX⟩
    · rw [EC.out.1, EC.out.2.1]; exact RepoOwn.none _ _
    · rw [EC.out.2.2]; exact ⟨rfl, Or.inl rfl⟩
end Go.Proofs.YtcgpgflnihjpiafGreat
