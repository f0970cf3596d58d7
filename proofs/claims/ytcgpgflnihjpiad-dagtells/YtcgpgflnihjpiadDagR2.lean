/- The reference on commits: AboveOf, BasesOf. -/
import Derived.Test.YtcgpgflnihjpiadDag4
import Derived.Test.YtcgpgflnihjpiadDagR
namespace Go.Proofs.Ytcgpgflnihjpiad
namespace M
/-- The reference's question: is k a base, the s behind it looked at? -/
def isF (L : List Com) (a b k : Nat) : Nat → Bool
  | 0 => both L a b k
  | s + 1 => isF L a b k s && !(both L a b (k + 1 + s) && (above L (k + 1 + s)).getD k false)
theorem isF_iff (L : List Com) (a b k s : Nat) : isF L a b k s = true ↔ both L a b k = true ∧ ∀ i, k < i → i < k + 1 + s → both L a b i = true → (above L i).getD k false = false := by
  induction s with
  | zero =>
    rw [isF]
    constructor
    · intro h; exact ⟨h, fun i h1 h2 => by omega⟩
    · exact fun h => h.1
  | succ s ih =>
    rw [isF, Bool.and_eq_true, ih]
    constructor
    · rintro ⟨⟨h1, h2⟩, h3⟩
      refine ⟨h1, fun i g1 g2 g3 => ?_⟩
      by_cases e : i = k + 1 + s
      · subst e; rw [g3] at h3; simpa using h3
      · exact h2 i g1 (by omega) g3
    · rintro ⟨h1, h2⟩
      refine ⟨⟨h1, fun i g1 g2 g3 => h2 i g1 (by omega) g3⟩, ?_⟩
      have := h2 (k + 1 + s) (by omega) (by omega)
      cases h : both L a b (k + 1 + s)
      · rfl
      · rw [this h]; rfl
theorem isF_base {L : List Com} (R : Right L) {a b : Nat} (ha : a < L.length) (hb : b < L.length) (k : Nat) (hk : k < L.length) : isF L a b k (L.length - (k + 1)) = isBase L a b k := by
  rw [Bool.eq_iff_iff, isF_iff, isBase_iff R ha hb]
  refine and_congr_right fun _ => ?_
  constructor
  · intro h i h1 h2; exact h i h1 (by omega)
  · intro h i h1 h2; exact h i h1 (by omega)
theorem mark_more (m : List Bool) (ps : List Int) (h : ∀ p ∈ ps, p.toNat < m.length) (j : Nat) (hj : m.getD j false = true) : (mark m ps).getD j false = true := (mark_get m ps h j).2 (Or.inl hj)
end M
open Go.RowKit

set_option maxHeartbeats 8000000 in
theorem aboveOf_some (b off n cap : Nat) (L : List M.Com) (c : Nat) (w : World) (hn : n ≤ 14) (hcn : c < n) (hl : L.length = n) (hR : M.Right L) (hB : b < w.heap.size)
    (hc : ∀ i, i < n → ∃ a1 n1 c1 a2 n2 c2, w.cell? ⟨b, off + i * 2, none⟩ = some (.slice a1 n1 c1) ∧ w.cell? ⟨b, off + i * 2 + 1, none⟩ = some (.slice a2 n2 c2) ∧ Rd w a1 n1 (L.getD i ([], [])).1 ∧ Ri w a2 n2 (L.getD i ([], [])).2 ∧ n1 ≤ 9223372036854775807 ∧ n2 ≤ 9223372036854775807) :
    Calls Try.prog 25 #[.slice (some ⟨b, off, none⟩) n cap, .int .i64 c] w fun e w' => e = .returned (.slice (some ⟨w.heap.size, 0, none⟩) n n) ∧ Bo w' w.heap.size (M.above L c) ∧ Below w.heap.size w w' := by
  have HC : Aside (∀ i, i < n → ∃ a1 n1 c1 a2 n2 c2, w.cell? ⟨b, off + i * 2, none⟩ = some (.slice a1 n1 c1) ∧ w.cell? ⟨b, off + i * 2 + 1, none⟩ = some (.slice a2 n2 c2) ∧ Rd w a1 n1 (L.getD i ([], [])).1 ∧ Ri w a2 n2 (L.getD i ([], [])).2 ∧ n1 ≤ 9223372036854775807 ∧ n2 ≤ 9223372036854775807) := hc
  have HL : Aside (L.length = n) := hl
  have HRt : Aside (M.Right L) := hR
  have hmk := make_bool n (by omega)
  obtain ⟨Z, hZ⟩ : ∃ Z, Z = ((List.replicate n false).map Value.bool).toArray := ⟨_, rfl⟩
  have hZc : Z[c]? = some (.bool false) := by rw [hZ]; simp [hcn]
  rw [← hZ] at hmk
  have B0 : Bo (w.alloc (.cells Z 4)) w.heap.size (List.replicate n false) := by unfold Bo; rw [heap_alloc_new, hZ]
  have B1 : Aside (Bo (w.alloc (.cells (Z.setIfInBounds c (.bool true)) 4)) w.heap.size ((List.replicate n false).set c true)) := by unfold Aside Bo; rw [heap_alloc_new, hZ, List.setIfInBounds_toArray, List.map_set]
  have c1 : (w.alloc (.cells Z 4)).cell? ⟨w.heap.size, c, none⟩ = some (.bool false) := by rw [cell_of_row _ _ _ _ _ _ B0]; rw [← hZ]; exact hZc
  have f1 := B0.frozen c
  clear hc hl hR hZ B0
  go_enter Try.func25, Try.ntmps25
  go_wp2
  go_loopg [6] (c + 1) (fun gg i wr => ∃ (m : List Bool), ((gg = 0 ∧ i = .int .i64 (-1)) ∨ (∃ j : Nat, j + 1 = gg ∧ i = .int .i64 j)) ∧ gg ≤ c + 1 ∧ Aside (m.length = n) ∧ Aside (Bo wr w.heap.size m) ∧ Aside (M.aboveF L gg m = M.above L c) ∧ Below w.heap.size w wr)
  case atStart => exact ⟨(List.replicate n false).set c true, Or.inr ⟨c, rfl, rfl⟩, Nat.le_refl _, by simp [Aside], B1, by unfold Aside M.above; rw [HL.out], (Below.refl _ _).alloc (Nat.le_refl _) _⟩
  case round =>
    obtain ⟨m, hi, hle, HML, HB, HA, hbel⟩ := hrel
    rcases hi with ⟨rfl, rfl⟩ | ⟨j, rfl, rfl⟩
    · have HB' : Aside (Bo wr w.heap.size (M.above L c)) := by have h := HA.out; rw [M.aboveF] at h; rw [← h]; exact HB
      go_wp2
      go_ret
      exact ⟨rfl, HB'.out, hbel⟩
    · obtain ⟨a1, n1, k1, a2, n2, k2, q1, q2, r1, r2, m1, m2⟩ := HC.out j (by omega)
      have c0 : wr.cell? ⟨b, off + j * 2 + 1, none⟩ = some (.slice a2 n2 k2) := (hbel.cell (p := ⟨b, off + j * 2 + 1, none⟩) hB).trans q2
      have hjn : j < n := by omega
      have c1 := HB.out.cell (i := j) (by rw [HML.out]; exact hjn)
      have hRj := HRt.out j (by rw [HL.out]; exact hjn)
      obtain ⟨ps, hps⟩ : ∃ ps, (L.getD j ([], [])).2 = ps := ⟨_, rfl⟩
      rw [hps] at r2 hRj
      have hA := HA.out
      rw [M.aboveF, hps] at hA
      have HA2 : Aside (M.aboveF L j (if m.getD j false = true then M.mark m ps else m) = M.above L c) := hA
      have HR2 : Aside (Ri w a2 n2 ps) := r2
      have hn2 : n2 ≤ 2 := by rw [← r2.1]; exact hRj.2.1
      have HPr : Aside (∀ p ∈ ps, 0 ≤ p ∧ p < (j : Int)) := hRj.2.2
      have Q2 : Aside (w.cell? ⟨b, off + j * 2 + 1, none⟩ = some (.slice a2 n2 k2)) := q2
      obtain ⟨t, ht⟩ : ∃ t, m.getD j false = t := ⟨_, rfl⟩
      rw [ht] at c1
      have HT : Aside (m.getD j false = t) := ht
      clear ht hA q1 q2 r1 r2 hRj HA hps
      have HJ : Aside (∀ gg : Nat, gg = j → (gg = 0 ∧ Value.int .i64 ((j : Int) - 1) = .int .i64 (-1)) ∨ (∃ j' : Nat, j' + 1 = gg ∧ Value.int .i64 ((j : Int) - 1) = .int .i64 j')) := fun gg e => by
        subst e
        cases gg with
        | zero => exact Or.inl ⟨rfl, rfl⟩
        | succ j' => exact Or.inr ⟨j', rfl, by congr 1; omega⟩
      cases t with
      | true =>
        have HK0 : Aside (Bo wr w.heap.size (M.mark m (ps.take 0))) := HB
        go_wp2
        go_loopg [7] n2 (fun g2 i ws => ∃ (k : Nat), k + g2 = n2 ∧ i = .int .i64 k ∧ Aside (Bo ws w.heap.size (M.mark m (ps.take k))) ∧ Below w.heap.size w ws)
        case atStart => exact ⟨0, by omega, rfl, HK0, hbel⟩
        case round =>
          obtain ⟨k, hk, rfl, HBk, hbk⟩ := hrel
          have ck : wr.cell? ⟨b, off + j * 2 + 1, none⟩ = some (.slice a2 n2 k2) := (hbk.cell (p := ⟨b, off + j * 2 + 1, none⟩) hB).trans Q2.out
          have ml : (M.mark m (ps.take k)).length = n := by rw [M.mark_len]; exact HML.out
          have hmj : (M.mark m (ps.take k)).getD j false = true := M.mark_more m _ (fun p hp => by have := HPr.out p (List.mem_of_mem_take hp); rw [HML.out]; omega) j HT.out
          have cj := HBk.out.cell (i := j) (by rw [ml]; exact hjn)
          rw [hmj] at cj
          clear hmj
          by_cases hkl : k < n2
          · obtain ⟨pb, po, rfl, hpB, hpc⟩ : ∃ pb po, a2 = some ⟨pb, po, none⟩ ∧ pb < w.heap.size ∧ ∀ i, i < n2 → w.cell? ⟨pb, po + i, none⟩ = some (.int .i64 (ps.getD i 0)) := by
              rcases HR2.out.cases with ⟨h0, _⟩ | ⟨pb, po, e, _, _, hpB, hpc⟩
              · omega
              · exact ⟨pb, po, e, hpB, hpc⟩
            have hmem : ps.getD k 0 ∈ ps := by have h2 := HR2.out.1; simp [List.getD, h2, hkl]
            have hr := HPr.out _ hmem
            obtain ⟨x, hx⟩ : ∃ x : Nat, ps.getD k 0 = (x : Int) := ⟨(ps.getD k 0).toNat, by omega⟩
            have cx : wr.cell? ⟨pb, po + k, none⟩ = some (.int .i64 x) := by rw [hbk.cell (p := ⟨pb, po + k, none⟩) hpB, hpc k hkl, hx]
            rw [hx] at hr
            have hxn : x < n := by omega
            have cs := HBk.out.cell (i := x) (by rw [ml]; exact hxn)
            obtain ⟨tt, htt⟩ : ∃ tt, (M.mark m (ps.take k)).getD x false = tt := ⟨_, rfl⟩
            rw [htt] at cs
            have fs := HBk.out.frozen x
            have HBk' : Aside (Bo (wr.setCell ⟨w.heap.size, x, none⟩ (.bool true)) w.heap.size (M.mark m (ps.take (k + 1)))) := by
              unfold Aside
              rw [M.mark_take m ps k (by rw [HR2.out.1]; exact hkl), hx]
              exact HBk.out.set x true
            have hbk' := hbk.setCell (p := ⟨w.heap.size, x, none⟩) (Nat.le_refl _) (.bool true)
            have hki : (k : Int) < (n2 : Int) := by omega
            clear hx htt ml hmem hr hpc
            go_wp2
            go_roundg (gk - 1)
            case measure => omega
            case rel => exact ⟨k + 1, by omega, by go_num, HBk', hbk'⟩
          · have e : ps.take k = ps := List.take_of_length_le (by rw [HR2.out.1]; omega)
            have HB' : Aside (Bo wr w.heap.size (M.mark m ps)) := by have := HBk.out; rw [e] at this; exact this
            have hki : decide ((k : Int) < (n2 : Int)) = false := by simp; omega
            clear e ml
            go_wp2
            go_roundg j
            case measure => omega
            case rel => exact ⟨M.mark m ps, HJ.out _ rfl, by omega, by unfold Aside; rw [M.mark_len]; exact HML.out, HB', by have h := HA2.out; rw [HT.out, if_pos rfl] at h; exact h, hbk⟩
      | false =>
        go_wp2
        refine wp_loop_rounds 1 ?_
        rw [rounds_succ]
        by_cases h0 : n2 = 0
        · subst h0
          go_wp2
          go_roundg j
          case measure => omega
          case rel => exact ⟨m, HJ.out _ rfl, by omega, HML, HB, by have h := HA2.out; rw [HT.out, if_neg (by simp)] at h; exact h, hbel⟩
        · have hpos : (0 : Int) < (n2 : Int) := by omega
          go_wp2
          go_roundg j
          case measure => omega
          case rel => exact ⟨m, HJ.out _ rfl, by omega, HML, HB, by have h := HA2.out; rw [HT.out, if_neg (by simp)] at h; exact h, hbel⟩

theorem aboveOf_any (a : Option Addr) (n cap : Nat) (L : List M.Com) (c : Nat) (w : World) (h : Cm w a n L) (hz : M.dchk L = 0) (hcn : c < n) :
    Calls Try.prog 25 #[.slice a n cap, .int .i64 c] w fun e w' => e = .returned (.slice (some ⟨w.heap.size, 0, none⟩) n n) ∧ Bo w' w.heap.size (M.above L c) ∧ Below w.heap.size w w' := by
  have hR := M.dchk_zero hz
  rcases h.cases with ⟨rfl, rfl⟩ | ⟨b, off, rfl, hn, hl, hB, hc⟩
  · omega
  · exact aboveOf_some b off n cap L c w (by rw [← hl]; exact hR.1) hcn hl hR.2 hB hc
end Go.Proofs.Ytcgpgflnihjpiad
