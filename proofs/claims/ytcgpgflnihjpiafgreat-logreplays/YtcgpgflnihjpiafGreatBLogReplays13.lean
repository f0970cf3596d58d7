/- A pen: a number, a text, in a block of its own. -/
import Derived.Test.YtcgpgflnihjpiafGreatBLogReplays06
import Derived.Test.YtcgpgflnihjpiafGreatBLogReplays03
import Derived.Test.YtcgpgflnihjpiafGreatBLogReplays11
import Derived.Test.YtcgpgflnihjpiafGreatBLogReplays04
import Derived.Test.YtcgpgflnihjpiafGreatBLogReplays02
import Derived.Test.YtcgpgflnihjpiafGreatBLogReplays01
namespace Go.Proofs.YtcgpgflnihjpiafGreat
open Go.RowKit

theorem PenAt.base {w : World} {base b : Nat} {l : M.By} {ov : Bool} (h : PenAt w base b l ov) : base ≤ w.heap.size := by
  have := h.lt
  obtain ⟨_, _, h2, _⟩ := h
  omega
/-- One number of a byte, in a block of its own. -/
theorem pbyte1_any (b base : Nat) (l : M.By) (ov : Bool) (n : Int) (w : World) (hP : PenAt w base b l ov) (hll : l.length ≤ 400000) :
    Calls Tryz.prog 60 #[.pointer (some ⟨b, 0, none⟩), .slice (some ⟨w.heap.size, 0, none⟩) 1 1] (w.alloc (.cells #[.int .i64 n] 3)) fun e w' => (∃ v, e = .returned v) ∧ PenAt w' base b (M.pnL false (l, ov) [n]).1 (M.pnL false (l, ov) [n]).2 ∧ Below base w w' ∧ Kp w w' := by
  have hb0 : Below w.heap.size w (w.alloc (.cells #[.int .i64 n] 3)) := (Below.refl _ _).alloc (Nat.le_refl _) _
  have hW0 : (w.alloc (.cells #[.int .i64 n] 3)).heap[w.heap.size]? = some (.cells (([n] : List Int).map (Value.int .i64)).toArray 3 (0, 0)) := heap_alloc_new _ _
  refine (pbytes_any b base l ov (some ⟨w.heap.size, 0, none⟩) 1 1 [n] _ (hP.later hb0) (fun w' _ hk => ri_kept hW0 hk) (by omega) hll).mono ?_
  rintro e w1 ⟨h1, h2, h3, h4⟩
  exact ⟨h1, h2, (hb0.mono hP.base).trans h3, (Kp.of hb0).trans h4⟩
/-- Two numbers of two bytes. -/
theorem ppair2_any (b base : Nat) (l : M.By) (ov : Bool) (n k : Int) (w : World) (hP : PenAt w base b l ov) (hll : l.length ≤ 400000) :
    Calls Tryz.prog 62 #[.pointer (some ⟨b, 0, none⟩), .slice (some ⟨w.heap.size, 0, none⟩) 2 2] (w.alloc (.cells #[.int .i64 n, .int .i64 k] 3)) fun e w' => (∃ v, e = .returned v) ∧ PenAt w' base b (M.pnL true (l, ov) [n, k]).1 (M.pnL true (l, ov) [n, k]).2 ∧ Below base w w' ∧ Kp w w' := by
  have hb0 : Below w.heap.size w (w.alloc (.cells #[.int .i64 n, .int .i64 k] 3)) := (Below.refl _ _).alloc (Nat.le_refl _) _
  have hW0 : (w.alloc (.cells #[.int .i64 n, .int .i64 k] 3)).heap[w.heap.size]? = some (.cells (([n, k] : List Int).map (Value.int .i64)).toArray 3 (0, 0)) := heap_alloc_new _ _
  refine (ppairs_any b base l ov (some ⟨w.heap.size, 0, none⟩) 2 2 [n, k] _ (hP.later hb0) (fun w' _ hk => ri_kept hW0 hk) (by omega) hll).mono ?_
  rintro e w1 ⟨h1, h2, h3, h4⟩
  exact ⟨h1, h2, (hb0.mono hP.base).trans h3, (Kp.of hb0).trans h4⟩
/-- One number of two bytes. -/
theorem ppair1_any (b base : Nat) (l : M.By) (ov : Bool) (n : Int) (w : World) (hP : PenAt w base b l ov) (hll : l.length ≤ 400000) :
    Calls Tryz.prog 62 #[.pointer (some ⟨b, 0, none⟩), .slice (some ⟨w.heap.size, 0, none⟩) 1 1] (w.alloc (.cells #[.int .i64 n] 3)) fun e w' => (∃ v, e = .returned v) ∧ PenAt w' base b (M.pnL true (l, ov) [n]).1 (M.pnL true (l, ov) [n]).2 ∧ Below base w w' ∧ Kp w w' := by
  have hb0 : Below w.heap.size w (w.alloc (.cells #[.int .i64 n] 3)) := (Below.refl _ _).alloc (Nat.le_refl _) _
  have hW0 : (w.alloc (.cells #[.int .i64 n] 3)).heap[w.heap.size]? = some (.cells (([n] : List Int).map (Value.int .i64)).toArray 3 (0, 0)) := heap_alloc_new _ _
  refine (ppairs_any b base l ov (some ⟨w.heap.size, 0, none⟩) 1 1 [n] _ (hP.later hb0) (fun w' _ hk => ri_kept hW0 hk) (by omega) hll).mono ?_
  rintro e w1 ⟨h1, h2, h3, h4⟩
  exact ⟨h1, h2, (hb0.mono hP.base).trans h3, (Kp.of hb0).trans h4⟩
end Go.Proofs.YtcgpgflnihjpiafGreat

/- log.Write. -/
namespace Go.Proofs.YtcgpgflnihjpiafGreat
open Go.RowKit

/-- One more than a number, as the machine adds it: it can stand, or can not, alike. -/
theorem pnS_wrap (st : M.By × Bool) {n : Int} (h : M.inI n) : M.pnS true st (IntKind.i64.wrap (n + 1)) = M.pnS true st (n + 1) := by
  obtain ⟨h1, h2⟩ := h
  by_cases h3 : n = 9223372036854775807
  · subst h3
    have e : IntKind.i64.wrap (9223372036854775807 + 1) = -9223372036854775808 := by rw [IntKind.wrap_i64]; omega
    rw [e]
    unfold M.pnS M.pnB
    simp
  · have e : IntKind.i64.wrap (n + 1) = n + 1 := by rw [IntKind.wrap_i64]; omega
    rw [e]
theorem wC_wrap (st : M.By × Bool) (c : M.Chg) (h : M.inI c.2.1 ∧ M.inI c.2.2) : M.pnL true (M.pnL false st [c.1]) [IntKind.i64.wrap (c.2.1 + 1), IntKind.i64.wrap (c.2.2 + 1)] = M.wC st c := by
  show M.pnS true (M.pnS true _ _) _ = M.pnS true (M.pnS true _ _) _
  rw [pnS_wrap _ h.1, pnS_wrap _ h.2]

set_option maxRecDepth 100000 in
set_option maxHeartbeats 8000000 in
theorem write_any (x : M.Act) (a : Option Addr) (m cap : Nat) (w : World) (hrc : Rc w a m x.chs) (hm : m ≤ 9223372036854775807) (h1 : x.one.length ≤ 9223372036854775807) (h2 : x.two.length ≤ 9223372036854775807) (hrg : ∀ c ∈ x.chs, M.inI c.2.1 ∧ M.inI c.2.2) :
    Calls Tryz.prog 21 #[actV x a m cap] w fun e w' => e = .returned (.tuple #[.string (M.str (if (M.wA x).2 = true then [] else (M.wA x).1)), .int .i64 (if (M.wA x).2 = true then 3 else 0)]) ∧ Below w.heap.size w w' := by
  obtain ⟨p, hp⟩ : ∃ p, p = w.heap.size := ⟨_, rfl⟩
  obtain ⟨W1, hW1⟩ : ∃ W1, W1 = w.alloc (.cells #[.int .i64 x.kind, .string (M.str x.one), .string (M.str x.two), .slice a m cap] 28) := ⟨_, rfl⟩
  obtain ⟨W, hW⟩ : ∃ W, W = W1.alloc (.cells #[.slice none 0 0, .bool false] 102) := ⟨_, rfl⟩
  have hb1 : Below w.heap.size w W1 := by rw [hW1]; exact (Below.refl _ _).alloc (Nat.le_refl _) _
  have hb2 : Below W1.heap.size W1 W := by rw [hW]; exact (Below.refl _ _).alloc (Nat.le_refl _) _
  have hs1 : W1.heap.size = p + 1 := by rw [hW1, hp]; simp
  have hb : Below w.heap.size w W := hb1.trans (hb2.mono (by rw [hs1, hp]; omega))
  have HP0 : PenAt W (p + 1) (p + 1) [] false := by
    refine ⟨.slice none 0 0, ?_, Nat.le_refl _, ⟨rfl, Or.inl ⟨rfl, rfl⟩⟩⟩
    rw [hW, ← hs1]; exact heap_alloc_new _ _
  have hW10 : W1.heap[p]? = some (.cells #[.int .i64 x.kind, .string (M.str x.one), .string (M.str x.two), .slice a m cap] 28 (0, 0)) := by rw [hW1, hp]; exact heap_alloc_new _ _
  have HA : Hid (∀ V, Below (p + 1) W V → V.heap[p]? = some (.cells #[.int .i64 x.kind, .string (M.str x.one), .string (M.str x.two), .slice a m cap] 28 (0, 0))) := fun V hV => by
    rw [hV.block p (by omega), hb2.block p (by omega)]; exact hW10
  have hbp : ∀ V, Below (p + 1) W V → Below w.heap.size w V := fun V hV => hb.trans (hV.mono (by rw [← hp]; omega))
  have HRc : Hid (∀ V, Below (p + 1) W V → Rc V a m x.chs) := fun V hV => hrc.below (hbp V hV) (Nat.le_refl _)
  have HBp : Hid (∀ V, Below (p + 1) W V → Below w.heap.size w V) := hbp
  have HRg : Hid (∀ c ∈ x.chs, M.inI c.2.1 ∧ M.inI c.2.2) := hrg
  have HWn : Hid (∀ k, ((x.chs.take k).foldl M.wC (M.wA4 x)).1.length ≤ 10000) := M.wA_len x
  have hchl : x.chs.length = m := hrc.1
  have HLn : Aside (x.chs.length = m) := hchl
  have hl1 : (M.pnL false ([], false) [x.kind]).1.length ≤ 2 := M.pnL_len false ([], false) [x.kind]
  have hl2 := M.pnT_len (M.pnL false ([], false) [x.kind]) x.one
  have hl3 := M.pnT_len (M.pnT (M.pnL false ([], false) [x.kind]) x.one) x.two
  have H4 : Hid (M.wA4 x = M.pnL false (M.pnT (M.pnT (M.pnL false ([], false) [x.kind]) x.one) x.two) [(m : Int)]) := by rw [← hchl]; rfl
  have HWA : Hid (M.wA x = x.chs.foldl M.wC (M.wA4 x)) := rfl
  obtain ⟨s1, e1⟩ : ∃ s, s = M.pnL false ([], false) [x.kind] := ⟨_, rfl⟩
  obtain ⟨s2, e2⟩ : ∃ s, s = M.pnT s1 x.one := ⟨_, rfl⟩
  obtain ⟨s3, e3⟩ : ∃ s, s = M.pnT s2 x.two := ⟨_, rfl⟩
  rw [← e1] at hl1 hl2 hl3 H4
  rw [← e2] at hl2 hl3 H4
  rw [← e3] at hl3 H4
  have K1 := pbyte1_any (p + 1) (p + 1) [] false x.kind W HP0 (by simp)
  rw [← e1] at K1
  have K2 : ∀ V, PenAt V (p + 1) (p + 1) s1.1 s1.2 → Calls Tryz.prog 61 #[.pointer (some ⟨p + 1, 0, none⟩), .string (M.str x.one)] V fun e w' => (∃ v, e = .returned v) ∧ PenAt w' (p + 1) (p + 1) s2.1 s2.2 ∧ Below (p + 1) V w' ∧ Kp V w' := fun V hV => by
    rw [e2]; exact ptext_any (p + 1) (p + 1) s1.1 s1.2 x.one V hV h1 (by omega)
  have K3 : ∀ V, PenAt V (p + 1) (p + 1) s2.1 s2.2 → Calls Tryz.prog 61 #[.pointer (some ⟨p + 1, 0, none⟩), .string (M.str x.two)] V fun e w' => (∃ v, e = .returned v) ∧ PenAt w' (p + 1) (p + 1) s3.1 s3.2 ∧ Below (p + 1) V w' ∧ Kp V w' := fun V hV => by
    rw [e3]; exact ptext_any (p + 1) (p + 1) s2.1 s2.2 x.two V hV h2 (by omega)
  have K4 : ∀ V, PenAt V (p + 1) (p + 1) s3.1 s3.2 → Calls Tryz.prog 60 #[.pointer (some ⟨p + 1, 0, none⟩), .slice (some ⟨V.heap.size, 0, none⟩) 1 1] (V.alloc (.cells #[.int .i64 (m : Int)] 3)) fun e w' => (∃ v, e = .returned v) ∧ PenAt w' (p + 1) (p + 1) (M.wA4 x).1 (M.wA4 x).2 ∧ Below (p + 1) V w' ∧ Kp V w' := fun V hV => by
    rw [H4.out]; exact pbyte1_any (p + 1) (p + 1) s3.1 s3.2 m V hV (by omega)
  have HK1 : Hid (Calls Tryz.prog 60 #[.pointer (some ⟨p + 1, 0, none⟩), .slice (some ⟨W.heap.size, 0, none⟩) 1 1] (W.alloc (.cells #[.int .i64 x.kind] 3)) fun e w' => (∃ v, e = .returned v) ∧ PenAt w' (p + 1) (p + 1) s1.1 s1.2 ∧ Below (p + 1) W w' ∧ Kp W w') := K1
  have HK2 : Hid (∀ V, PenAt V (p + 1) (p + 1) s1.1 s1.2 → Calls Tryz.prog 61 #[.pointer (some ⟨p + 1, 0, none⟩), .string (M.str x.one)] V fun e w' => (∃ v, e = .returned v) ∧ PenAt w' (p + 1) (p + 1) s2.1 s2.2 ∧ Below (p + 1) V w' ∧ Kp V w') := K2
  have HK3 : Hid (∀ V, PenAt V (p + 1) (p + 1) s2.1 s2.2 → Calls Tryz.prog 61 #[.pointer (some ⟨p + 1, 0, none⟩), .string (M.str x.two)] V fun e w' => (∃ v, e = .returned v) ∧ PenAt w' (p + 1) (p + 1) s3.1 s3.2 ∧ Below (p + 1) V w' ∧ Kp V w') := K3
  have HK4 : Hid (∀ V, PenAt V (p + 1) (p + 1) s3.1 s3.2 → Calls Tryz.prog 60 #[.pointer (some ⟨p + 1, 0, none⟩), .slice (some ⟨V.heap.size, 0, none⟩) 1 1] (V.alloc (.cells #[.int .i64 (m : Int)] 3)) fun e w' => (∃ v, e = .returned v) ∧ PenAt w' (p + 1) (p + 1) (M.wA4 x).1 (M.wA4 x).2 ∧ Below (p + 1) V w' ∧ Kp V w') := K4
  have HW : Hid (W = (w.alloc (.cells #[.int .i64 x.kind, .string (M.str x.one), .string (M.str x.two), .slice a m cap] 28)).alloc (.cells #[.slice none 0 0, .bool false] 102)) := by rw [← hW1]; exact hW
  have hWs : W.heap.size = p + 1 + 1 := by rw [hW]; simp [hs1]
  rw [hWs] at HK1
  have HP : Aside (p = w.heap.size) := hp
  have blk := HA.out W (Below.refl _ _)
  have j0 : W.cell? ⟨p, 0, none⟩ = some (.int .i64 x.kind) := by rw [cell_of_row _ _ _ _ _ _ blk]; rfl
  rw [HW.out, HP.out] at j0
  obtain ⟨so8, hso8⟩ : ∃ so8, so8 = M.str (if (M.wA x).2 = true then [] else (M.wA x).1) := ⟨_, rfl⟩
  obtain ⟨e8, he8⟩ : ∃ e8 : Int, e8 = if (M.wA x).2 = true then 3 else 0 := ⟨_, rfl⟩
  rw [← hso8, ← he8]
  have H8 : Hid (so8 = M.str (if (M.wA x).2 = true then [] else (M.wA x).1)) := hso8
  have H9 : Hid (e8 = if (M.wA x).2 = true then 3 else 0) := he8
  unfold actV
  obtain ⟨kd, hkd⟩ : ∃ kd, kd = x.kind := ⟨_, rfl⟩
  obtain ⟨so, hso⟩ : ∃ so, so = M.str x.one := ⟨_, rfl⟩
  obtain ⟨st, hst⟩ : ∃ st, st = M.str x.two := ⟨_, rfl⟩
  rw [← hkd, ← hso, ← hst] at HA HW j0 ⊢
  rw [← hkd] at HK1
  rw [← hso] at HK2
  rw [← hst] at HK3
  clear hso8 he8 hkd hso hst blk K1 K2 K3 K4 e1 e2 e3 hl1 hl2 hl3 hrc hrg hchl hbp h1 h2 HP0 hW10 hW hW1 hb hb1 hb2 hs1 hp hWs
  go_enter Tryz.func21, Tryz.ntmps21
  go_wp2_with fail
  rw [← HW.out, ← HP.out]
  refine HK1.out.mono ?_
  rintro e w1 ⟨⟨v1, rfl⟩, q1, b1, _⟩
  have HQ1 : Hid (PenAt w1 (p + 1) (p + 1) s1.1 s1.2) := q1
  have blk := HA.out w1 b1
  clear j0
  have j1 : w1.cell? ⟨p, 1, none⟩ = some (.string so) := by rw [cell_of_row _ _ _ _ _ _ blk]; rfl
  clear blk q1
  go_wp2_with fail
  refine (HK2.out w1 HQ1.out).mono ?_
  rintro e w2 ⟨⟨v2, rfl⟩, q2, b2, _⟩
  have HQ2 : Hid (PenAt w2 (p + 1) (p + 1) s2.1 s2.2) := q2
  have c2 := b1.trans b2
  have blk := HA.out w2 c2
  clear j1
  have j2 : w2.cell? ⟨p, 2, none⟩ = some (.string st) := by rw [cell_of_row _ _ _ _ _ _ blk]; rfl
  clear blk q2 b1 b2
  go_wp2_with fail
  refine (HK3.out w2 HQ2.out).mono ?_
  rintro e w3 ⟨⟨v3, rfl⟩, q3, b3, _⟩
  have HQ3 : Hid (PenAt w3 (p + 1) (p + 1) s3.1 s3.2) := q3
  have c3 := c2.trans b3
  have blk := HA.out w3 c3
  clear j2
  have j3 : w3.cell? ⟨p, 3, none⟩ = some (.slice a m cap) := by rw [cell_of_row _ _ _ _ _ _ blk]; rfl
  clear blk q3 b3 c2
  go_wp2_with fail
  refine (HK4.out w3 HQ3.out).mono ?_
  rintro e w4 ⟨⟨v4, rfl⟩, q4, b4, _⟩
  have HQ4 : Aside (PenAt w4 (p + 1) (p + 1) (M.wA4 x).1 (M.wA4 x).2) := q4
  have c4 := c3.trans b4
  have blk := HA.out w4 c4
  clear j3
  have j4 : w4.cell? ⟨p, 3, none⟩ = some (.slice a m cap) := by rw [cell_of_row _ _ _ _ _ _ blk]; rfl
  clear blk q4 b4 c3 HK1 HK2 HK3 HK4
  go_wp2_with fail
  go_loopg [31] m (fun g i wr => ∃ k : Nat, k + g = m ∧ i = .int .i64 k ∧ Aside (PenAt wr (p + 1) (p + 1) ((x.chs.take k).foldl M.wC (M.wA4 x)).1 ((x.chs.take k).foldl M.wC (M.wA4 x)).2) ∧ Below (p + 1) W wr)
  case atStart => exact ⟨0, by omega, rfl, HQ4, c4⟩
  case round =>
    obtain ⟨k, hk, rfl, HPk, hbel⟩ := hrel
    clear j4
    by_cases hkm : k < m
    · have hki : (k : Int) < (m : Int) := by omega
      have hkn : k < x.chs.length := by rw [HLn.out]; exact hkm
      obtain ⟨ab, ao, rfl, hab, hc⟩ : ∃ ab ao, a = some ⟨ab, ao, none⟩ ∧ ab < wr.heap.size ∧ (wr.cell? ⟨ab, ao + k * 3, none⟩ = some (.int .i64 (x.chs.getD k (0, 0, 0)).1) ∧ wr.cell? ⟨ab, ao + k * 3 + 1, none⟩ = some (.int .i64 (x.chs.getD k (0, 0, 0)).2.1) ∧ wr.cell? ⟨ab, ao + k * 3 + 2, none⟩ = some (.int .i64 (x.chs.getD k (0, 0, 0)).2.2)) := by
        rcases (HRc.out wr hbel).cases with ⟨h0, _⟩ | ⟨ab, ao, e, _, _, hB, hc⟩
        · omega
        · exact ⟨ab, ao, e, hB, hc k hkm⟩
      have hmem : x.chs.getD k (0, 0, 0) ∈ x.chs := by
        have : x.chs.getD k (0, 0, 0) = x.chs[k] := by simp [List.getD, hkn]
        rw [this]; exact List.getElem_mem hkn
      have hst := M.wC_take (M.wA4 x) x.chs k hkn
      have hrg := HRg.out _ hmem
      obtain ⟨c, hcc⟩ : ∃ c, c = x.chs.getD k (0, 0, 0) := ⟨_, rfl⟩
      rw [← hcc] at hc hst hrg
      rw [← wC_wrap _ _ hrg] at hst
      obtain ⟨x0, x1, x2⟩ := c
      obtain ⟨ck, c1, c2⟩ := hc
      simp only at ck c1 c2 hst
      obtain ⟨z1, hz1⟩ : ∃ z, z = IntKind.i64.wrap (x1 + 1) := ⟨_, rfl⟩
      obtain ⟨z2, hz2⟩ : ∃ z, z = IntKind.i64.wrap (x2 + 1) := ⟨_, rfl⟩
      rw [← hz1, ← hz2] at hst
      have y1 : wrap64 (x1 + 1) = z1 := by rw [hz1]; exact (IntWalk.i64_left _).symm
      have y2 : wrap64 (x2 + 1) = z2 := by rw [hz2]; exact (IntWalk.i64_left _).symm
      have hlk : ((x.chs.take k).foldl M.wC (M.wA4 x)).1.length ≤ 10000 := HWn.out k
      generalize (x.chs.take k).foldl M.wC (M.wA4 x) = sk at *
      obtain ⟨lk, ok⟩ := sk
      simp only at hlk HPk
      obtain ⟨W5, hW5⟩ : ∃ W5, W5 = wr.alloc (.cells #[.int .i64 x0, .int .i64 x1, .int .i64 x2] 69) := ⟨_, rfl⟩
      have hb5 : Below wr.heap.size wr W5 := by rw [hW5]; exact (Below.refl _ _).alloc (Nat.le_refl _) _
      have h50 : W5.heap[wr.heap.size]? = some (.cells #[.int .i64 x0, .int .i64 x1, .int .i64 x2] 69 (0, 0)) := by rw [hW5]; exact heap_alloc_new _ _
      have HC5 : Hid (∀ V, Kp W5 V → V.heap[wr.heap.size]? = some (.cells #[.int .i64 x0, .int .i64 x1, .int .i64 x2] 69 (0, 0))) := fun V hV => hV _ _ _ (by decide) (by decide) h50
      have hbel5 : Below (p + 1) W W5 := hbel.trans (hb5.mono HPk.out.base)
      have hl5 := M.pnL_len false (lk, ok) [x0]
      have hw5s : W5.heap.size = wr.heap.size + 1 := by rw [hW5]; simp
      obtain ⟨s5, hs5⟩ : ∃ s, s = M.pnL false (lk, ok) [x0] := ⟨_, rfl⟩
      rw [← hs5] at hst hl5
      have K5 := pbyte1_any (p + 1) (p + 1) lk ok x0 W5 (HPk.out.later hb5) (by omega)
      rw [← hs5, hw5s] at K5
      have HK5 : Hid (Calls Tryz.prog 60 #[.pointer (some ⟨p + 1, 0, none⟩), .slice (some ⟨wr.heap.size + 1, 0, none⟩) 1 1] (W5.alloc (.cells #[.int .i64 x0] 3)) fun e w' => (∃ v, e = .returned v) ∧ PenAt w' (p + 1) (p + 1) s5.1 s5.2 ∧ Below (p + 1) W5 w' ∧ Kp W5 w') := K5
      have HK6 : Hid (∀ V, PenAt V (p + 1) (p + 1) s5.1 s5.2 → Calls Tryz.prog 62 #[.pointer (some ⟨p + 1, 0, none⟩), .slice (some ⟨V.heap.size, 0, none⟩) 2 2] (V.alloc (.cells #[.int .i64 z1, .int .i64 z2] 3)) fun e w' => (∃ v, e = .returned v) ∧ PenAt w' (p + 1) (p + 1) (M.pnL true s5 [z1, z2]).1 (M.pnL true s5 [z1, z2]).2 ∧ Below (p + 1) V w' ∧ Kp V w') := fun V hV =>
        ppair2_any (p + 1) (p + 1) s5.1 s5.2 _ _ V hV (by simp at hl5; omega)
      have HSt : Hid ((x.chs.take (k + 1)).foldl M.wC (M.wA4 x) = M.pnL true s5 [z1, z2]) := hst
      have d0 : W5.cell? ⟨wr.heap.size, 0, none⟩ = some (.int .i64 x0) := by rw [cell_of_row _ _ _ _ _ _ h50]; rfl
      have HW5 : Hid (W5 = wr.alloc (.cells #[.int .i64 x0, .int .i64 x1, .int .i64 x2] 69)) := hW5
      rw [hW5] at d0
      clear hz1 hz2 hst hs5 hcc hl5 K5 h50 hb5 hW5 hmem hrg hw5s hlk
      go_wp2_with fail
      rw [← HW5.out]
      refine HK5.out.mono ?_
      rintro e w6 ⟨⟨v6, rfl⟩, q6, b6, k6⟩
      have blk := HC5.out w6 k6
      have d1 : w6.cell? ⟨wr.heap.size, 1, none⟩ = some (.int .i64 x1) := by rw [cell_of_row _ _ _ _ _ _ blk]; rfl
      have d2 : w6.cell? ⟨wr.heap.size, 2, none⟩ = some (.int .i64 x2) := by rw [cell_of_row _ _ _ _ _ _ blk]; rfl
      have HQ6 : Hid (PenAt w6 (p + 1) (p + 1) s5.1 s5.2) := q6
      have c6 := hbel5.trans b6
      clear blk q6 b6 k6 ck c1 c2 d0
      go_wp2_with fail
      refine (HK6.out w6 HQ6.out).mono ?_
      rintro e w7 ⟨⟨v7, rfl⟩, q7, b7, _⟩
      rw [← HSt.out] at q7
      have HQ7 : Aside (PenAt w7 (p + 1) (p + 1) ((x.chs.take (k + 1)).foldl M.wC (M.wA4 x)).1 ((x.chs.take (k + 1)).foldl M.wC (M.wA4 x)).2) := q7
      have c7 := c6.trans b7
      clear q7 b7 d1 d2 HK5 HK6
      go_wp2
      go_roundg (gk - 1)
      case measure => omega
      case rel => exact ⟨k + 1, by omega, by go_num, HQ7, c7⟩
    · obtain rfl : k = m := by omega
      have hkk2 : decide ((k : Int) < (k : Int)) = false := by simp
      have e1 : x.chs.take k = x.chs := List.take_of_length_le (by rw [HLn.out]; exact Nat.le_refl _)
      have K8 := written_any (p + 1) (p + 1) _ _ wr HPk.out
      rw [e1, ← HWA.out] at K8
      rw [← H8.out, ← H9.out] at K8
      have HK8 : Hid (Calls Tryz.prog 63 #[.pointer (some ⟨p + 1, 0, none⟩)] wr fun e w' => e = .returned (.tuple #[.string so8, .int .i64 e8]) ∧ Below wr.heap.size wr w') := K8
      have hpb : p + 1 ≤ wr.heap.size := HPk.out.base
      clear e1 K8
      go_wp2_with fail
      refine HK8.out.mono ?_
      rintro e w9 ⟨rfl, b9⟩
      have c9 := HBp.out _ (hbel.trans (b9.mono hpb))
      clear b9
      go_wp2
      go_ret2
      exact ⟨rfl, c9⟩
end Go.Proofs.YtcgpgflnihjpiafGreat

/- log.Do. -/
namespace Go.Proofs.YtcgpgflnihjpiafGreat
open Go.RowKit Go.Shelf Go.Maps

set_option maxRecDepth 100000 in
set_option maxHeartbeats 16000000 in
theorem do_any (a : Option Addr) (n cap : Nat) (C : List M.Com) (a2 : Option Addr) (n2 cap2 : Nat) (H : List M.Hd) (x : M.Act) (a3 : Option Addr) (m3 cap3 : Nat) (w : World) (hV : RepoV w a n cap C a2 n2 cap2 H) (hrc : Rc w a3 m3 x.chs) (hm3 : m3 ≤ 9223372036854775807) (hss : (M.str x.one).size ≤ 9223372036854775807) :
    Calls Tryz.prog 9 #[.agg #[.slice a n cap, .slice a2 n2 cap2], actV x a3 m3 cap3] w fun e w' => ∃ v, e = .returned (.tuple #[v, .int .i64 (M.doE C H x)]) ∧ RepoOwn w' w.heap.size v (M.doC C H x) (M.doH C H x) ∧ Below w.heap.size w w' := by
  obtain ⟨p, hp⟩ : ∃ p, p = w.heap.size := ⟨_, rfl⟩
  obtain ⟨k, hk⟩ : ∃ k, k = x.kind := ⟨_, rfl⟩
  obtain ⟨s, hs⟩ : ∃ s, s = M.str x.one := ⟨_, rfl⟩
  obtain ⟨t, ht⟩ : ∃ t, t = M.str x.two := ⟨_, rfl⟩
  obtain ⟨d, hd⟩ : ∃ d, d = x.chs := ⟨_, rfl⟩
  obtain ⟨E, hE⟩ : ∃ E, E = M.doE C H x := ⟨_, rfl⟩
  obtain ⟨C', hC'⟩ : ∃ C', C' = M.doC C H x := ⟨_, rfl⟩
  obtain ⟨H', hH'⟩ : ∃ H', H' = M.doH C H x := ⟨_, rfl⟩
  have HEs : Hid (E = (if k = 1 then M.wpE C H s d else if k = 2 then M.brE C H s t else if k = 3 then M.joinE C H s t else if k = 4 then M.dropE C H s else 8) ∧ C' = (if k = 1 then M.wpC C H s d else if k = 2 then M.brC C H s t else if k = 3 then M.joinC C H s t else if k = 4 then M.dropC C H s else []) ∧ H' = (if k = 1 then M.wpH C H s d else if k = 2 then M.brH C H s t else if k = 3 then M.joinH C H s t else if k = 4 then M.dropH C H s else [])) := by
    unfold Hid
    rw [hE, hC', hH', hk, hs, ht, hd]
    exact ⟨rfl, rfl, rfl⟩
  rw [← hd] at hrc
  rw [← hs] at hss
  unfold actV
  rw [← hE, ← hC', ← hH', ← hk, ← hs, ← ht]
  obtain ⟨W, hW⟩ : ∃ W, W = ((w.alloc (.cells #[.slice a n cap, .slice a2 n2 cap2] 25)).alloc (.cells #[.int .i64 k, .string s, .string t, .slice a3 m3 cap3] 28)).alloc (.cells #[.slice none 0 0, .slice none 0 0] 25) := ⟨_, rfl⟩
  obtain ⟨R, hR⟩ : ∃ R, R = p + 1 + 1 := ⟨_, rfl⟩
  have hb : Below w.heap.size w W := by rw [hW]; exact (((Below.refl _ _).alloc (Nat.le_refl _) _).alloc (by simp) _).alloc (by simp; omega) _
  have hsz : W.heap.size = R + 1 := by rw [hW, hR, hp]; simp
  have q2 : W.heap[R]? = some (.cells #[.slice none 0 0, .slice none 0 0] 25 (0, 0)) := by
    rw [hW, show R = ((w.alloc (.cells #[.slice a n cap, .slice a2 n2 cap2] 25)).alloc (.cells #[.int .i64 k, .string s, .string t, .slice a3 m3 cap3] 28)).heap.size by rw [hR, hp]; simp]
    exact heap_alloc_new _ _
  have c0 : W.cell? ⟨p, 0, none⟩ = some (.slice a n cap) := by rw [hW, hp]; simp [go_sem]
  have c1 : W.cell? ⟨p, 1, none⟩ = some (.slice a2 n2 cap2) := by rw [hW, hp]; simp [go_sem]
  have k0 : W.cell? ⟨p + 1, 0, none⟩ = some (.int .i64 k) := by rw [hW, hp]; simp [go_sem]
  have k1 : W.cell? ⟨p + 1, 1, none⟩ = some (.string s) := by rw [hW, hp]; simp [go_sem]
  have k2 : W.cell? ⟨p + 1, 2, none⟩ = some (.string t) := by rw [hW, hp]; simp [go_sem]
  have k3 : W.cell? ⟨p + 1, 3, none⟩ = some (.slice a3 m3 cap3) := by rw [hW, hp]; simp [go_sem]
  have F1 : Hid (Calls Tryz.prog 16 #[.agg #[.slice a n cap, .slice a2 n2 cap2], .string s, .slice a3 m3 cap3] W fun e w' => ∃ v, e = .returned (.tuple #[v, .int .i64 (M.wpE C H s d)]) ∧ RepoOwn w' W.heap.size v (M.wpC C H s d) (M.wpH C H s d) ∧ Below W.heap.size W w') := wput_any a n cap C a2 n2 cap2 H s a3 m3 cap3 d W (hV.later hb) (hrc.below hb (Nat.le_refl _)) hm3
  have F2 : Hid (Calls Tryz.prog 28 #[.agg #[.slice a n cap, .slice a2 n2 cap2], .string s, .string t] W fun e w' => ∃ v, e = .returned (.tuple #[v, .int .i64 (M.brE C H s t)]) ∧ RepoOwn w' W.heap.size v (M.brC C H s t) (M.brH C H s t) ∧ Below W.heap.size W w') := wbranch_any a n cap C a2 n2 cap2 H s t W (hV.later hb) hss
  have F3 : Hid (Calls Tryz.prog 14 #[.agg #[.slice a n cap, .slice a2 n2 cap2], .string s, .string t] W fun e w' => ∃ v kb kn kc, e = .returned (.tuple #[v, .slice kb kn kc, .int .i64 (M.joinE C H s t)]) ∧ RepoOwn w' W.heap.size v (M.joinC C H s t) (M.joinH C H s t) ∧ Below W.heap.size W w') := (wmerge_any a n cap C a2 n2 cap2 H s t W (hV.later hb)).mono fun e w' ⟨v, kb, kn, kc, h1, h2, _, _, _, h3⟩ => ⟨v, kb, kn, kc, h1, h2, h3⟩
  have F4 : Hid (Calls Tryz.prog 29 #[.agg #[.slice a n cap, .slice a2 n2 cap2], .string s] W fun e w' => ∃ v, e = .returned (.tuple #[v, .int .i64 (M.dropE C H s)]) ∧ RepoOwn w' W.heap.size v (M.dropC C H s) (M.dropH C H s) ∧ Below W.heap.size W w') := wdrop_any a n cap C a2 n2 cap2 H s W (hV.later hb)
  have HW : Hid (W = ((w.alloc (.cells #[.slice a n cap, .slice a2 n2 cap2] 25)).alloc (.cells #[.int .i64 k, .string s, .string t, .slice a3 m3 cap3] 28)).alloc (.cells #[.slice none 0 0, .slice none 0 0] 25)) := hW
  have HP : Aside (p = w.heap.size) := hp
  have HR : Aside (R = p + 1 + 1) := hR
  have HPR : Aside (w.heap.size ≤ p) := by unfold Aside; omega
  have HSz : Aside (W.heap.size = R + 1) := hsz
  have HQ2 : Hid (W.heap[R]? = some (.cells #[.slice none 0 0, .slice none 0 0] 25 (0, 0))) := q2
  have hpR : p + 1 < R := by omega
  clear hW hp hR hV hrc hss hk hs ht hd hE hC' hH' q2 hsz
  by_cases h1 : k = 1
  · subst h1
    obtain ⟨E1, hE1⟩ : ∃ E1, E1 = M.wpE C H s d := ⟨_, rfl⟩
    rw [← hE1] at F1
    have HE1 : Aside (E1 = M.wpE C H s d) := hE1
    clear hE1 F2 F3 F4
    have hEE : E = E1 ∧ C' = (M.wpC C H s d) ∧ H' = (M.wpH C H s d) := by
      obtain ⟨h1, h2, h3⟩ := HEs.out
      simp at h1 h2 h3
      exact ⟨h1.trans HE1.out.symm, h2, h3⟩
    have HEE : Hid (E = E1 ∧ C' = (M.wpC C H s d) ∧ H' = (M.wpH C H s d)) := hEE
    clear hEE
    have c0r := c0
    have c1r := c1
    have k0r := k0
    have k1r := k1
    have k2r := k2
    have k3r := k3
    rw [HW.out, HP.out] at c0r c1r k0r k1r k2r k3r
    go_enter Tryz.func9, Tryz.ntmps9
    go_wp2_with fail
    rw [← HW.out, ← HP.out, ← HR.out]
    clear c0r c1r k0r k1r k2r k3r
    refine F1.out.mono ?_
    rintro e w1 ⟨v, rfl, o1, b1⟩
    have hb1 : Below w.heap.size w w1 := hb.trans (b1.mono hb.size)
    have r1 : w1.heap[R]? = some (.cells #[.slice none 0 0, .slice none 0 0] 25 (0, 0)) := (b1.block R (by have := HSz.out; omega)).trans HQ2.out
    obtain ⟨xa8, xc8, ya8, yc8, rfl, _⟩ := o1.v
    generalize hln : (M.wpC C H s d).length = ln8 at *
    generalize hlh : (M.wpH C H s d).length = lh8 at *
    obtain ⟨q1, q2, hqq, o91, o92⟩ := o1
    obtain ⟨rfl, rfl⟩ : q1 = .slice xa8 ln8 xc8 ∧ q2 = .slice ya8 lh8 yc8 := by simp at hqq; exact ⟨hqq.1.symm, hqq.2.symm⟩
    have HRO : Aside (RepoOwn ((w1.setCell ⟨R, 0, none⟩ (.slice xa8 ln8 xc8)).setCell ⟨R, 1, none⟩ (.slice ya8 lh8 yc8)) w.heap.size (.agg #[.slice xa8 ln8 xc8, .slice ya8 lh8 yc8]) C' H') := by unfold Aside; rw [HEE.out.2.1, HEE.out.2.2]; exact (repoOwn_set r1 o91 o92).lower hb.size
    obtain ⟨g1, g2, g3⟩ := res_set r1 (.slice xa8 ln8 xc8) (.slice ya8 lh8 yc8)
    obtain ⟨X, hX⟩ : ∃ X, X = (w1.setCell ⟨R, 0, none⟩ (.slice xa8 ln8 xc8)).setCell ⟨R, 1, none⟩ (.slice ya8 lh8 yc8) := ⟨_, rfl⟩
    rw [← hX] at g1 HRO
    have bX : Below w.heap.size w X := by rw [hX]; exact (hb1.setCell (p := ⟨R, 0, none⟩) (by show _ ≤ R; have := HPR.out; omega) _).setCell (p := ⟨R, 1, none⟩) (by show _ ≤ R; have := HPR.out; omega) _
    have HX9 : Hid (X = (w1.setCell ⟨R, 0, none⟩ (.slice xa8 ln8 xc8)).setCell ⟨R, 1, none⟩ (.slice ya8 lh8 yc8)) := hX
    have HX0 : Aside (X.cell? ⟨R, 0, none⟩ = some (.slice xa8 ln8 xc8)) := by unfold Aside; rw [cell_of_row _ _ _ _ _ _ g1]; rfl
    have HX1 : Aside (X.cell? ⟨R, 1, none⟩ = some (.slice ya8 lh8 yc8)) := by unfold Aside; rw [cell_of_row _ _ _ _ _ _ g1]; rfl
    have x0 : w1.cell? ⟨R, 0, none⟩ = some (.slice none 0 0) := by rw [cell_of_row _ _ _ _ _ _ r1]; rfl
    have x1 : w1.cell? ⟨R, 1, none⟩ = some (.slice none 0 0) := by rw [cell_of_row _ _ _ _ _ _ r1]; rfl
    have f0 : w1.frozen? ⟨R, 0, none⟩ = false := frozen_of_row _ _ _ _ _ r1
    have f1 : w1.frozen? ⟨R, 1, none⟩ = false := frozen_of_row _ _ _ _ _ r1
    clear g1 g2 g3 hX r1 o91 o92 hqq hln hlh b1 c0 c1 k0 k1 k2 k3
    go_wp2
    rw [← HX9.out]
    have y0 := HX0.out
    have y1 := HX1.out
    refine bodyPost_ret (v := .tuple #[.agg #[.slice xa8 ln8 xc8, .slice ya8 lh8 yc8], .int .i64 E1]) (by simp [results, Tryz.results9, go_sem, y0, y1]) rfl ?_
    exact ⟨_, ret_two' HEE.out.1.symm, HRO.out, bX⟩
  have h1b : (k == 1) = false := by simp [h1]
  by_cases h2 : k = 2
  · subst h2
    obtain ⟨E1, hE1⟩ : ∃ E1, E1 = M.brE C H s t := ⟨_, rfl⟩
    rw [← hE1] at F2
    have HE1 : Aside (E1 = M.brE C H s t) := hE1
    clear hE1 F1 F3 F4
    have hEE : E = E1 ∧ C' = (M.brC C H s t) ∧ H' = (M.brH C H s t) := by
      obtain ⟨h1, h2, h3⟩ := HEs.out
      simp at h1 h2 h3
      exact ⟨h1.trans HE1.out.symm, h2, h3⟩
    have HEE : Hid (E = E1 ∧ C' = (M.brC C H s t) ∧ H' = (M.brH C H s t)) := hEE
    clear hEE
    have c0r := c0
    have c1r := c1
    have k0r := k0
    have k1r := k1
    have k2r := k2
    have k3r := k3
    rw [HW.out, HP.out] at c0r c1r k0r k1r k2r k3r
    go_enter Tryz.func9, Tryz.ntmps9
    go_wp2_with fail
    rw [← HW.out, ← HP.out, ← HR.out]
    clear c0r c1r k0r k1r k2r k3r
    refine F2.out.mono ?_
    rintro e w1 ⟨v, rfl, o1, b1⟩
    have hb1 : Below w.heap.size w w1 := hb.trans (b1.mono hb.size)
    have r1 : w1.heap[R]? = some (.cells #[.slice none 0 0, .slice none 0 0] 25 (0, 0)) := (b1.block R (by have := HSz.out; omega)).trans HQ2.out
    obtain ⟨xa8, xc8, ya8, yc8, rfl, _⟩ := o1.v
    generalize hln : (M.brC C H s t).length = ln8 at *
    generalize hlh : (M.brH C H s t).length = lh8 at *
    obtain ⟨q1, q2, hqq, o91, o92⟩ := o1
    obtain ⟨rfl, rfl⟩ : q1 = .slice xa8 ln8 xc8 ∧ q2 = .slice ya8 lh8 yc8 := by simp at hqq; exact ⟨hqq.1.symm, hqq.2.symm⟩
    have HRO : Aside (RepoOwn ((w1.setCell ⟨R, 0, none⟩ (.slice xa8 ln8 xc8)).setCell ⟨R, 1, none⟩ (.slice ya8 lh8 yc8)) w.heap.size (.agg #[.slice xa8 ln8 xc8, .slice ya8 lh8 yc8]) C' H') := by unfold Aside; rw [HEE.out.2.1, HEE.out.2.2]; exact (repoOwn_set r1 o91 o92).lower hb.size
    obtain ⟨g1, g2, g3⟩ := res_set r1 (.slice xa8 ln8 xc8) (.slice ya8 lh8 yc8)
    obtain ⟨X, hX⟩ : ∃ X, X = (w1.setCell ⟨R, 0, none⟩ (.slice xa8 ln8 xc8)).setCell ⟨R, 1, none⟩ (.slice ya8 lh8 yc8) := ⟨_, rfl⟩
    rw [← hX] at g1 HRO
    have bX : Below w.heap.size w X := by rw [hX]; exact (hb1.setCell (p := ⟨R, 0, none⟩) (by show _ ≤ R; have := HPR.out; omega) _).setCell (p := ⟨R, 1, none⟩) (by show _ ≤ R; have := HPR.out; omega) _
    have HX9 : Hid (X = (w1.setCell ⟨R, 0, none⟩ (.slice xa8 ln8 xc8)).setCell ⟨R, 1, none⟩ (.slice ya8 lh8 yc8)) := hX
    have HX0 : Aside (X.cell? ⟨R, 0, none⟩ = some (.slice xa8 ln8 xc8)) := by unfold Aside; rw [cell_of_row _ _ _ _ _ _ g1]; rfl
    have HX1 : Aside (X.cell? ⟨R, 1, none⟩ = some (.slice ya8 lh8 yc8)) := by unfold Aside; rw [cell_of_row _ _ _ _ _ _ g1]; rfl
    have x0 : w1.cell? ⟨R, 0, none⟩ = some (.slice none 0 0) := by rw [cell_of_row _ _ _ _ _ _ r1]; rfl
    have x1 : w1.cell? ⟨R, 1, none⟩ = some (.slice none 0 0) := by rw [cell_of_row _ _ _ _ _ _ r1]; rfl
    have f0 : w1.frozen? ⟨R, 0, none⟩ = false := frozen_of_row _ _ _ _ _ r1
    have f1 : w1.frozen? ⟨R, 1, none⟩ = false := frozen_of_row _ _ _ _ _ r1
    clear g1 g2 g3 hX r1 o91 o92 hqq hln hlh b1 c0 c1 k0 k1 k2 k3
    go_wp2
    rw [← HX9.out]
    have y0 := HX0.out
    have y1 := HX1.out
    refine bodyPost_ret (v := .tuple #[.agg #[.slice xa8 ln8 xc8, .slice ya8 lh8 yc8], .int .i64 E1]) (by simp [results, Tryz.results9, go_sem, y0, y1]) rfl ?_
    exact ⟨_, ret_two' HEE.out.1.symm, HRO.out, bX⟩
  have h2b : (k == 2) = false := by simp [h2]
  by_cases h3 : k = 3
  · subst h3
    obtain ⟨E1, hE1⟩ : ∃ E1, E1 = M.joinE C H s t := ⟨_, rfl⟩
    rw [← hE1] at F3
    have HE1 : Aside (E1 = M.joinE C H s t) := hE1
    clear hE1 F1 F2 F4
    have hEE : E = E1 ∧ C' = (M.joinC C H s t) ∧ H' = (M.joinH C H s t) := by
      obtain ⟨h1, h2, h3⟩ := HEs.out
      simp at h1 h2 h3
      exact ⟨h1.trans HE1.out.symm, h2, h3⟩
    have HEE : Hid (E = E1 ∧ C' = (M.joinC C H s t) ∧ H' = (M.joinH C H s t)) := hEE
    clear hEE
    have c0r := c0
    have c1r := c1
    have k0r := k0
    have k1r := k1
    have k2r := k2
    have k3r := k3
    rw [HW.out, HP.out] at c0r c1r k0r k1r k2r k3r
    go_enter Tryz.func9, Tryz.ntmps9
    go_wp2_with fail
    rw [← HW.out, ← HP.out, ← HR.out]
    clear c0r c1r k0r k1r k2r k3r
    refine F3.out.mono ?_
    rintro e w1 ⟨v, kb, kn, kc, rfl, o1, b1⟩
    have hb1 : Below w.heap.size w w1 := hb.trans (b1.mono hb.size)
    have r1 : w1.heap[R]? = some (.cells #[.slice none 0 0, .slice none 0 0] 25 (0, 0)) := (b1.block R (by have := HSz.out; omega)).trans HQ2.out
    obtain ⟨xa8, xc8, ya8, yc8, rfl, _⟩ := o1.v
    generalize hln : (M.joinC C H s t).length = ln8 at *
    generalize hlh : (M.joinH C H s t).length = lh8 at *
    obtain ⟨q1, q2, hqq, o91, o92⟩ := o1
    obtain ⟨rfl, rfl⟩ : q1 = .slice xa8 ln8 xc8 ∧ q2 = .slice ya8 lh8 yc8 := by simp at hqq; exact ⟨hqq.1.symm, hqq.2.symm⟩
    obtain ⟨W2, hW2⟩ : ∃ W2, W2 = w1.alloc (.cells #[.slice xa8 ln8 xc8, .slice ya8 lh8 yc8] 25) := ⟨_, rfl⟩
    have b2 : Below w1.heap.size w1 W2 := by rw [hW2]; exact (Below.refl _ _).alloc (Nat.le_refl _) _
    have r2 : W2.heap[R]? = some (.cells #[.slice none 0 0, .slice none 0 0] 25 (0, 0)) := (b2.block R (Array.getElem?_eq_some_iff.1 r1).1).trans r1
    have hb2 : Below w.heap.size w W2 := hb1.trans (b2.mono hb1.size)
    have o91 := o91.later b2
    have o92 := o92.later b2
    have HW2 : Hid (W2 = w1.alloc (.cells #[.slice xa8 ln8 xc8, .slice ya8 lh8 yc8] 25)) := hW2
    have HRO : Aside (RepoOwn ((W2.setCell ⟨R, 0, none⟩ (.slice xa8 ln8 xc8)).setCell ⟨R, 1, none⟩ (.slice ya8 lh8 yc8)) w.heap.size (.agg #[.slice xa8 ln8 xc8, .slice ya8 lh8 yc8]) C' H') := by unfold Aside; rw [HEE.out.2.1, HEE.out.2.2]; exact (repoOwn_set r2 o91 o92).lower hb.size
    obtain ⟨g1, g2, g3⟩ := res_set r2 (.slice xa8 ln8 xc8) (.slice ya8 lh8 yc8)
    obtain ⟨X, hX⟩ : ∃ X, X = (W2.setCell ⟨R, 0, none⟩ (.slice xa8 ln8 xc8)).setCell ⟨R, 1, none⟩ (.slice ya8 lh8 yc8) := ⟨_, rfl⟩
    rw [← hX] at g1 HRO
    have bX : Below w.heap.size w X := by rw [hX]; exact (hb2.setCell (p := ⟨R, 0, none⟩) (by show _ ≤ R; have := HPR.out; omega) _).setCell (p := ⟨R, 1, none⟩) (by show _ ≤ R; have := HPR.out; omega) _
    have HX9 : Hid (X = (W2.setCell ⟨R, 0, none⟩ (.slice xa8 ln8 xc8)).setCell ⟨R, 1, none⟩ (.slice ya8 lh8 yc8)) := hX
    have HX0 : Aside (X.cell? ⟨R, 0, none⟩ = some (.slice xa8 ln8 xc8)) := by unfold Aside; rw [cell_of_row _ _ _ _ _ _ g1]; rfl
    have HX1 : Aside (X.cell? ⟨R, 1, none⟩ = some (.slice ya8 lh8 yc8)) := by unfold Aside; rw [cell_of_row _ _ _ _ _ _ g1]; rfl
    have x0 : W2.cell? ⟨R, 0, none⟩ = some (.slice none 0 0) := by rw [cell_of_row _ _ _ _ _ _ r2]; rfl
    have x1 : W2.cell? ⟨R, 1, none⟩ = some (.slice none 0 0) := by rw [cell_of_row _ _ _ _ _ _ r2]; rfl
    have f0 : W2.frozen? ⟨R, 0, none⟩ = false := frozen_of_row _ _ _ _ _ r2
    have f1 : W2.frozen? ⟨R, 1, none⟩ = false := frozen_of_row _ _ _ _ _ r2
    rw [hW2] at x0 x1 f0 f1
    clear g1 g2 g3 hX hW2 r1 r2 o91 o92 hqq hln hlh b1 b2 c0 c1 k0 k1 k2 k3
    go_wp2
    rw [← HW2.out, ← HX9.out]
    have y0 := HX0.out
    have y1 := HX1.out
    refine bodyPost_ret (v := .tuple #[.agg #[.slice xa8 ln8 xc8, .slice ya8 lh8 yc8], .int .i64 E1]) (by simp [results, Tryz.results9, go_sem, y0, y1]) rfl ?_
    exact ⟨_, ret_two' HEE.out.1.symm, HRO.out, bX⟩
  have h3b : (k == 3) = false := by simp [h3]
  by_cases h4 : k = 4
  · subst h4
    obtain ⟨E1, hE1⟩ : ∃ E1, E1 = M.dropE C H s := ⟨_, rfl⟩
    rw [← hE1] at F4
    have HE1 : Aside (E1 = M.dropE C H s) := hE1
    clear hE1 F1 F2 F3
    have hEE : E = E1 ∧ C' = (M.dropC C H s) ∧ H' = (M.dropH C H s) := by
      obtain ⟨h1, h2, h3⟩ := HEs.out
      simp at h1 h2 h3
      exact ⟨h1.trans HE1.out.symm, h2, h3⟩
    have HEE : Hid (E = E1 ∧ C' = (M.dropC C H s) ∧ H' = (M.dropH C H s)) := hEE
    clear hEE
    have c0r := c0
    have c1r := c1
    have k0r := k0
    have k1r := k1
    have k2r := k2
    have k3r := k3
    rw [HW.out, HP.out] at c0r c1r k0r k1r k2r k3r
    go_enter Tryz.func9, Tryz.ntmps9
    go_wp2_with fail
    rw [← HW.out, ← HP.out, ← HR.out]
    clear c0r c1r k0r k1r k2r k3r
    refine F4.out.mono ?_
    rintro e w1 ⟨v, rfl, o1, b1⟩
    have hb1 : Below w.heap.size w w1 := hb.trans (b1.mono hb.size)
    have r1 : w1.heap[R]? = some (.cells #[.slice none 0 0, .slice none 0 0] 25 (0, 0)) := (b1.block R (by have := HSz.out; omega)).trans HQ2.out
    obtain ⟨xa8, xc8, ya8, yc8, rfl, _⟩ := o1.v
    generalize hln : (M.dropC C H s).length = ln8 at *
    generalize hlh : (M.dropH C H s).length = lh8 at *
    obtain ⟨q1, q2, hqq, o91, o92⟩ := o1
    obtain ⟨rfl, rfl⟩ : q1 = .slice xa8 ln8 xc8 ∧ q2 = .slice ya8 lh8 yc8 := by simp at hqq; exact ⟨hqq.1.symm, hqq.2.symm⟩
    have HRO : Aside (RepoOwn ((w1.setCell ⟨R, 0, none⟩ (.slice xa8 ln8 xc8)).setCell ⟨R, 1, none⟩ (.slice ya8 lh8 yc8)) w.heap.size (.agg #[.slice xa8 ln8 xc8, .slice ya8 lh8 yc8]) C' H') := by unfold Aside; rw [HEE.out.2.1, HEE.out.2.2]; exact (repoOwn_set r1 o91 o92).lower hb.size
    obtain ⟨g1, g2, g3⟩ := res_set r1 (.slice xa8 ln8 xc8) (.slice ya8 lh8 yc8)
    obtain ⟨X, hX⟩ : ∃ X, X = (w1.setCell ⟨R, 0, none⟩ (.slice xa8 ln8 xc8)).setCell ⟨R, 1, none⟩ (.slice ya8 lh8 yc8) := ⟨_, rfl⟩
    rw [← hX] at g1 HRO
    have bX : Below w.heap.size w X := by rw [hX]; exact (hb1.setCell (p := ⟨R, 0, none⟩) (by show _ ≤ R; have := HPR.out; omega) _).setCell (p := ⟨R, 1, none⟩) (by show _ ≤ R; have := HPR.out; omega) _
    have HX9 : Hid (X = (w1.setCell ⟨R, 0, none⟩ (.slice xa8 ln8 xc8)).setCell ⟨R, 1, none⟩ (.slice ya8 lh8 yc8)) := hX
    have HX0 : Aside (X.cell? ⟨R, 0, none⟩ = some (.slice xa8 ln8 xc8)) := by unfold Aside; rw [cell_of_row _ _ _ _ _ _ g1]; rfl
    have HX1 : Aside (X.cell? ⟨R, 1, none⟩ = some (.slice ya8 lh8 yc8)) := by unfold Aside; rw [cell_of_row _ _ _ _ _ _ g1]; rfl
    have x0 : w1.cell? ⟨R, 0, none⟩ = some (.slice none 0 0) := by rw [cell_of_row _ _ _ _ _ _ r1]; rfl
    have x1 : w1.cell? ⟨R, 1, none⟩ = some (.slice none 0 0) := by rw [cell_of_row _ _ _ _ _ _ r1]; rfl
    have f0 : w1.frozen? ⟨R, 0, none⟩ = false := frozen_of_row _ _ _ _ _ r1
    have f1 : w1.frozen? ⟨R, 1, none⟩ = false := frozen_of_row _ _ _ _ _ r1
    clear g1 g2 g3 hX r1 o91 o92 hqq hln hlh b1 c0 c1 k0 k1 k2 k3
    go_wp2
    rw [← HX9.out]
    have y0 := HX0.out
    have y1 := HX1.out
    refine bodyPost_ret (v := .tuple #[.agg #[.slice xa8 ln8 xc8, .slice ya8 lh8 yc8], .int .i64 E1]) (by simp [results, Tryz.results9, go_sem, y0, y1]) rfl ?_
    exact ⟨_, ret_two' HEE.out.1.symm, HRO.out, bX⟩
  have h4b : (k == 4) = false := by simp [h4]
  have HEE : Hid (E = 8 ∧ C' = [] ∧ H' = []) := by
    obtain ⟨e1, e2, e3⟩ := HEs.out
    rw [if_neg h1, if_neg h2, if_neg h3, if_neg h4] at e1
    rw [if_neg h1, if_neg h2, if_neg h3, if_neg h4] at e2
    rw [if_neg h1, if_neg h2, if_neg h3, if_neg h4] at e3
    exact ⟨e1, e2, e3⟩
  have r1 := HQ2.out
  have HX0 : Aside (W.cell? ⟨R, 0, none⟩ = some (.slice none 0 0)) := by unfold Aside; rw [cell_of_row _ _ _ _ _ _ r1]; rfl
  have HX1 : Aside (W.cell? ⟨R, 1, none⟩ = some (.slice none 0 0)) := by unfold Aside; rw [cell_of_row _ _ _ _ _ _ r1]; rfl
  rw [HW.out, HP.out] at c0 c1 k0 k1 k2 k3
  clear r1 h1 h2 h3 h4 F1 F2 F3 F4
  go_enter Tryz.func9, Tryz.ntmps9
  go_wp2_with fail
  rw [← HW.out, ← HP.out, ← HR.out]
  have y0 := HX0.out
  have y1 := HX1.out
  rw [← HP.out] at hb
  refine bodyPost_ret (v := .tuple #[.agg #[.slice none 0 0, .slice none 0 0], .int .i64 8]) (by simp [results, Tryz.results9, go_sem, y0, y1]) rfl ?_
  refine ⟨_, ret_two' HEE.out.1.symm, ?_, hb⟩
  rw [HEE.out.2.1, HEE.out.2.2]; exact RepoOwn.none _ _
end Go.Proofs.YtcgpgflnihjpiafGreat

/- log.Recover. -/
namespace Go.Proofs.YtcgpgflnihjpiafGreat
open Go.RowKit Go.Shelf

theorem M.okA_size {x : M.Act} (h : M.okA x) : (M.str x.one).size ≤ 9223372036854775807 := by
  rw [M.str_size]; have := h.2.1; omega
theorem RepoOwn.v2 {w : World} {base : Nat} {v : Value} {C : List M.Com} {H : List M.Hd} (h : RepoOwn w base v C H) : ∃ a cap a2 cap2, v = .agg #[.slice a C.length cap, .slice a2 H.length cap2] ∧ RepoV w a C.length cap C a2 H.length cap2 H ∧ H.length ≤ cap2 ∧ cap2 ≤ maxLen := by
  obtain ⟨x, y, e, h1, h2⟩ := h
  obtain ⟨a, cap, rfl, k1, k2, k3, k4, _⟩ := h1.cm
  obtain ⟨a2, cap2, rfl, l1, l2, l3, l4⟩ := h2.hs
  exact ⟨a, cap, a2, cap2, e, ⟨k1, k2, by unfold maxLen at k4; omega, l1, by unfold maxLen at l3; omega, l4⟩, l2, l3⟩
theorem begin_own (w : World) : Calls Tryz.prog 71 #[] w fun e w' => ∃ v, e = .returned v ∧ RepoOwn w' w.heap.size v M.begC M.begH ∧ Below w.heap.size w w' := by
  go_enter Tryz.func71, Tryz.ntmps71
  go_wp2
  refine bodyPost_ret (v := .agg #[.slice (some ⟨w.heap.size + 1, 0, none⟩) 1 1, .slice (some ⟨w.heap.size + 1 + 1, 0, none⟩) 1 1]) (by simp [results, Tryz.results71, go_sem]) rfl ?_
  refine ⟨_, rfl, ⟨_, _, rfl, ⟨[vp0], rfl, ⟨rfl, Or.inr ⟨w.heap.size + 1, 1, #[.slice none 0 0, .slice none 0 0], rfl, by omega, ?_, Nat.le_refl _, by simp [maxLen], rfl, rfl⟩⟩, fun i hi => ?_⟩, ⟨⟨rfl, Or.inr ⟨w.heap.size + 1 + 1, 1, #[.string ⟨#[109, 97, 105, 110]⟩, .int .i64 0], rfl, by omega, ?_, Nat.le_refl _, by simp [maxLen], rfl, rfl⟩⟩, fun x hx => ?_⟩⟩, (((Below.refl _ _).alloc (Nat.le_refl _) _).alloc (by simp) _).alloc (by simp; omega) _⟩
  · rw [Below.heap_alloc _ _ _ (by simp)]
    have := heap_alloc_new (w.alloc (.cells #[.slice (some ⟨w.heap.size + 1, 0, none⟩) 1 1, .slice (some ⟨w.heap.size + 1 + 1, 0, none⟩) 1 1] 25)) (.cells #[.slice none 0 0, .slice none 0 0] 51)
    simpa using this
  · obtain rfl : i = 0 := by simp [M.begC] at hi; omega
    exact ⟨World.ownsRow_nil _ _ _ _, World.ownsRow_nil _ _ _ _, by simp [M.begC], by simp [M.begC]⟩
  · have := heap_alloc_new ((w.alloc (.cells #[.slice (some ⟨w.heap.size + 1, 0, none⟩) 1 1, .slice (some ⟨w.heap.size + 1 + 1, 0, none⟩) 1 1] 25)).alloc (.cells #[.slice none 0 0, .slice none 0 0] 51)) (.cells #[.string ⟨#[109, 97, 105, 110]⟩, .int .i64 0] 71)
    simpa using this
  · obtain rfl : x = (⟨#[109, 97, 105, 110]⟩, 0) := by simpa [M.begH] using hx
    decide
/-- A repo in a box: what Recover's loop keeps. -/
structure RBox (w0 : World) (D : Nat) (C : List M.Com) (H : List M.Hd) (w : World) : Prop where
  bel : Below w0.heap.size w0 w
  v : ∃ x y, w.heap[D]? = some (.cells #[x, y] 25 (0, 0)) ∧ RepoOwn w w0.heap.size (.agg #[x, y]) C H
theorem RBox.lt {w0 w : World} {D : Nat} {C : List M.Com} {H : List M.Hd} (h : RBox w0 D C H w) : D < w.heap.size := by
  obtain ⟨_, x, y, h1, _⟩ := h
  exact (Array.getElem?_eq_some_iff.1 h1).1
theorem RBox.later {w0 w w' : World} {D : Nat} {C : List M.Com} {H : List M.Hd} (h : RBox w0 D C H w) (hb : Below w.heap.size w w') : RBox w0 D C H w' := by
  have hlt := h.lt
  obtain ⟨h1, x, y, h2, h3⟩ := h
  exact ⟨h1.trans (hb.mono h1.size), x, y, (hb.block D hlt).trans h2, h3.later hb⟩

set_option maxRecDepth 100000 in
set_option maxHeartbeats 8000000 in
theorem recover_any (l : M.By) (w : World) (hl : l.length ≤ 9223372036854775807) :
    Calls Tryz.prog 26 #[.string (M.str l)] w fun e w' => Below w.heap.size w w' ∧
      ((4096 < l.length ∧ e = .returned (.tuple #[.agg #[.slice none 0 0, .slice none 0 0], .int .i64 0, .int .i64 2])) ∨
       (l.length ≤ 4096 ∧ ∃ v, e = .returned (.tuple #[v, .int .i64 ((M.rAs 60 l).1.length : Int), .int .i64 0]) ∧ RepoOwn w' w.heap.size v (M.done (M.rAs 60 l).1).1 (M.done (M.rAs 60 l).1).2)) := by
  obtain ⟨R, hR⟩ : ∃ R, R = w.heap.size := ⟨_, rfl⟩
  obtain ⟨W, hW⟩ : ∃ W, W = w.alloc (.cells #[.slice none 0 0, .slice none 0 0] 25) := ⟨_, rfl⟩
  have hb : Below w.heap.size w W := by rw [hW]; exact (Below.refl _ _).alloc (Nat.le_refl _) _
  have q0 : W.heap[R]? = some (.cells #[.slice none 0 0, .slice none 0 0] 25 (0, 0)) := by rw [hW, hR]; exact heap_alloc_new _ _
  have HQ0 : Hid (W.heap[R]? = some (.cells #[.slice none 0 0, .slice none 0 0] 25 (0, 0))) := q0
  have K : Hid (Calls Tryz.prog 23 #[.string (M.str l)] W fun e w' => Below W.heap.size W w' ∧
      ((4096 < l.length ∧ e = .returned (.tuple #[.slice none 0 0, .int .i64 0, .int .i64 2])) ∨
       (l.length ≤ 4096 ∧ ∃ v, e = .returned (.tuple #[v, .int .i64 ((l.length - (M.rAs 60 l).2.length : Nat) : Int), .int .i64 0]) ∧ OwnA w' W.heap.size v (M.rAs 60 l).1))) := replay_any l W hl
  obtain ⟨s, hs⟩ : ∃ s, s = M.str l := ⟨_, rfl⟩
  rw [← hs] at K ⊢
  have HW : Hid (W = w.alloc (.cells #[.slice none 0 0, .slice none 0 0] 25)) := hW
  have HR : Aside (R = w.heap.size) := hR
  clear hW hR q0 hs
  go_enter Tryz.func26, Tryz.ntmps26
  go_wp2_with fail
  rw [← HW.out, ← HR.out]
  refine K.out.mono ?_
  rintro e w1 ⟨b1, ⟨h1, rfl⟩ | ⟨h1, v, rfl, oa⟩⟩
  · have hb1 : Below w.heap.size w w1 := hb.trans (b1.mono hb.size)
    have r1 : w1.heap[R]? = some (.cells #[.slice none 0 0, .slice none 0 0] 25 (0, 0)) := (b1.block R (Array.getElem?_eq_some_iff.1 HQ0.out).1).trans HQ0.out
    obtain ⟨g1, g2, g3⟩ := res_set r1 (.slice none 0 0) (.slice none 0 0)
    obtain ⟨X, hX⟩ : ∃ X, X = (w1.setCell ⟨R, 0, none⟩ (.slice none 0 0)).setCell ⟨R, 1, none⟩ (.slice none 0 0) := ⟨_, rfl⟩
    rw [← hX] at g1
    have bX : Below w.heap.size w X := by rw [hX]; exact (hb1.setCell (p := ⟨R, 0, none⟩) (by show _ ≤ R; have := HR.out; omega) _).setCell (p := ⟨R, 1, none⟩) (by show _ ≤ R; have := HR.out; omega) _
    have HX9 : Hid (X = (w1.setCell ⟨R, 0, none⟩ (.slice none 0 0)).setCell ⟨R, 1, none⟩ (.slice none 0 0)) := hX
    have HX0 : Aside (X.cell? ⟨R, 0, none⟩ = some (.slice none 0 0)) := by unfold Aside; rw [cell_of_row _ _ _ _ _ _ g1]; rfl
    have HX1 : Aside (X.cell? ⟨R, 1, none⟩ = some (.slice none 0 0)) := by unfold Aside; rw [cell_of_row _ _ _ _ _ _ g1]; rfl
    have x0 : w1.cell? ⟨R, 0, none⟩ = some (.slice none 0 0) := by rw [cell_of_row _ _ _ _ _ _ r1]; rfl
    have x1 : w1.cell? ⟨R, 1, none⟩ = some (.slice none 0 0) := by rw [cell_of_row _ _ _ _ _ _ r1]; rfl
    have f0 : w1.frozen? ⟨R, 0, none⟩ = false := frozen_of_row _ _ _ _ _ r1
    have f1 : w1.frozen? ⟨R, 1, none⟩ = false := frozen_of_row _ _ _ _ _ r1
    have HL : Hid (4096 < l.length) := h1
    clear g1 g2 g3 hX r1 h1 K
    go_wp2
    rw [← HX9.out]
    have y0 := HX0.out
    have y1 := HX1.out
    refine bodyPost_ret (v := .tuple #[.agg #[.slice none 0 0, .slice none 0 0], .int .i64 0, .int .i64 2]) (by simp [results, Tryz.results26, go_sem, y0, y1]) rfl ?_
    exact ⟨bX, Or.inl ⟨HL.out, rfl⟩⟩
  · obtain ⟨xs, hxs⟩ : ∃ xs, xs = (M.rAs 60 l).1 := ⟨_, rfl⟩
    have hok := M.rAs_ok 60 l
    have hlen := (M.rAs_len 60 l).1
    rw [← hxs] at hok hlen oa
    have HXs : Aside (xs = (M.rAs 60 l).1) := hxs
    obtain ⟨va, vc, rfl, hac, hvl, hvm⟩ := oa.ac
    obtain ⟨n, hn⟩ : ∃ n, n = xs.length := ⟨_, rfl⟩
    rw [← hn] at hac hlen ⊢
    have HAc : Hid (Ac w1 va n xs) := hac
    have HOk : Hid (∀ x ∈ xs, M.okA x) := hok
    have HN : Aside (n = xs.length) := hn
    have HL : Hid (l.length ≤ 4096) := h1
    obtain ⟨bt, hbt⟩ : ∃ bt, bt = l.length - (M.rAs 60 l).2.length := ⟨_, rfl⟩
    rw [← hbt]
    have KB : Hid (Calls Tryz.prog 71 #[] w1 fun e w' => ∃ v, e = .returned v ∧ RepoOwn w' w1.heap.size v M.begC M.begH ∧ Below w1.heap.size w1 w') := begin_own w1
    clear oa hac hok hn hvl hvm h1 K hxs hbt
    go_wp2_with fail
    refine KB.out.mono ?_
    rintro e w2 ⟨v2, rfl, o2, b2⟩
    have hb2 : Below W.heap.size W w2 := b1.trans (b2.mono b1.size)
    have o2w : RepoOwn w2 w.heap.size v2 M.begC M.begH := o2.lower (Nat.le_trans hb.size b1.size)
    obtain ⟨x2, y2, rfl, k2, h2⟩ := o2w
    obtain ⟨xa, xc, rfl, _⟩ := k2.cm
    obtain ⟨ya, yc, rfl, _⟩ := h2.hs
    obtain ⟨D, hD⟩ : ∃ D, D = w2.heap.size := ⟨_, rfl⟩
    obtain ⟨W3, hW3⟩ : ∃ W3, W3 = w2.alloc (.cells #[.slice xa M.begC.length xc, .slice ya M.begH.length yc] 25) := ⟨_, rfl⟩
    have b3 : Below w2.heap.size w2 W3 := by rw [hW3]; exact (Below.refl _ _).alloc (Nat.le_refl _) _
    have hb3 : Below W.heap.size W W3 := hb2.trans (b3.mono hb2.size)
    have B3 : RBox w D M.begC M.begH W3 := ⟨hb.trans (hb3.mono hb.size), _, _, by rw [hW3, hD]; exact heap_alloc_new _ _, ⟨_, _, rfl, k2.later b3, h2.later b3⟩⟩
    have HB3 : Aside (RBox w D M.begC M.begH W3) := B3
    have HW3 : Hid (W3 = w2.alloc (.cells #[.slice xa M.begC.length xc, .slice ya M.begH.length yc] 25)) := hW3
    have HD : Aside (D = w2.heap.size) := hD
    have HAc3 : Hid (Ac W3 va n xs) := (HAc.out.below b2).below b3
    have r3 : W3.heap[R]? = some (.cells #[.slice none 0 0, .slice none 0 0] 25 (0, 0)) := (hb3.block R (Array.getElem?_eq_some_iff.1 HQ0.out).1).trans HQ0.out
    have HR3 : Hid (W3.heap[R]? = some (.cells #[.slice none 0 0, .slice none 0 0] 25 (0, 0))) := r3
    have hRD : R < D := by rw [hD]; exact Nat.lt_of_lt_of_le (Array.getElem?_eq_some_iff.1 HQ0.out).1 (Nat.le_trans b1.size b2.size)
    have HB13 : Hid (Below w1.heap.size w1 W3) := b2.trans (b3.mono b2.size)
    have HW1D : Hid (w1.heap.size ≤ D) := by unfold Hid; rw [hD]; exact b2.size
    have HBW1 : Hid (Below w.heap.size w w1) := hb.trans (b1.mono hb.size)
    clear o2 k2 h2 hW3 hD B3 r3 KB b3 hb3 hb2 b2
    go_wp2_with fail
    rw [← HW3.out, ← HD.out]
    go_loopg [26] n (fun g i wr => ∃ k : Nat, k + g = n ∧ i = .int .i64 k ∧ Aside (RBox w D (M.done (xs.take k)).1 (M.done (xs.take k)).2 wr) ∧ (∀ j, j < W3.heap.size → j ≠ D → wr.heap[j]? = W3.heap[j]?) ∧ W3.heap.size ≤ wr.heap.size)
    case atStart => exact ⟨0, by omega, rfl, HB3, fun _ _ _ => rfl, Nat.le_refl _⟩
    case round =>
      obtain ⟨k, hk, rfl, HBk, hkeep, hsz⟩ := hrel
      have HKp : Hid (∀ j, j < W3.heap.size → j ≠ D → wr.heap[j]? = W3.heap[j]?) := hkeep
      clear hkeep
      obtain ⟨Ck, hCk⟩ : ∃ Ck, Ck = (M.done (xs.take k)).1 := ⟨_, rfl⟩
      obtain ⟨Hk, hHk⟩ : ∃ Hk, Hk = (M.done (xs.take k)).2 := ⟨_, rfl⟩
      rw [← hCk, ← hHk] at HBk
      have hDl := HBk.out.lt
      have hbel := HBk.out.bel
      obtain ⟨x4, y4, blk4, o4⟩ := HBk.out.v
      have o4' := o4
      obtain ⟨xa4, xc4, ya4, yc4, e4, V4, hc4, hm4⟩ := o4'.v2
      obtain ⟨rfl, rfl⟩ : x4 = .slice xa4 Ck.length xc4 ∧ y4 = .slice ya4 Hk.length yc4 := by simp at e4; exact e4
      obtain ⟨m, hm⟩ : ∃ m, m = Ck.length := ⟨_, rfl⟩
      obtain ⟨mh, hmh⟩ : ∃ mh, mh = Hk.length := ⟨_, rfl⟩
      rw [← hm, ← hmh] at blk4 V4
      have d0 : wr.cell? ⟨D, 0, none⟩ = some (.slice xa4 m xc4) := by rw [cell_of_row _ _ _ _ _ _ blk4]; rfl
      have d1 : wr.cell? ⟨D, 1, none⟩ = some (.slice ya4 mh yc4) := by rw [cell_of_row _ _ _ _ _ _ blk4]; rfl
      by_cases hkn : k < n
      · have hki : (k : Int) < (n : Int) := by omega
        have hkx : k < xs.length := by rw [← HN.out]; exact hkn
        have B1 : Below w1.heap.size w1 wr := ⟨hbel.os.trans HBW1.out.os.symm, hbel.tape.trans HBW1.out.tape.symm, hbel.output.trans HBW1.out.output.symm, Nat.le_trans HB13.out.size hsz, fun j hj => (HKp.out j (Nat.lt_of_lt_of_le hj HB13.out.size) (by have := HW1D.out; omega)).trans (HB13.out.block j hj)⟩
        obtain ⟨b, off, rfl, hbl, ca, cn, cc, t0, t1, t2, t3, trc, tcn⟩ : ∃ b off, va = some ⟨b, off, none⟩ ∧ b < wr.heap.size ∧ ∃ ca cn cc, wr.cell? ⟨b, off + k * 4, none⟩ = some (.int .i64 (xs.getD k act0).kind) ∧ wr.cell? ⟨b, off + k * 4 + 1, none⟩ = some (.string (M.str (xs.getD k act0).one)) ∧ wr.cell? ⟨b, off + k * 4 + 2, none⟩ = some (.string (M.str (xs.getD k act0).two)) ∧ wr.cell? ⟨b, off + k * 4 + 3, none⟩ = some (.slice ca cn cc) ∧ Rc wr ca cn (xs.getD k act0).chs ∧ cn ≤ 9223372036854775807 := by
          obtain ⟨_, h0 | ⟨b, off, e, hB, hc⟩⟩ := HAc.out.below B1
          · omega
          · exact ⟨b, off, e, hB, hc k hkn⟩
        obtain ⟨x, hx⟩ : ∃ x, x = xs.getD k act0 := ⟨_, rfl⟩
        rw [← hx] at t0 t1 t2 trc
        have hxk : xs[k] = x := by rw [hx]; simp [List.getD, hkx]
        have hokx : M.okA x := by rw [← hxk]; exact HOk.out _ (List.getElem_mem hkx)
        have hdn := M.done_take xs k hkx
        rw [hxk, ← hCk, ← hHk] at hdn
        have HDn : Hid (M.done (xs.take (k + 1)) = if M.doE Ck Hk x = 0 then (M.doC Ck Hk x, M.doH Ck Hk x) else M.done (xs.take k)) := hdn
        have HDk : Hid ((M.done (xs.take k)).1 = Ck ∧ (M.done (xs.take k)).2 = Hk) := ⟨hCk.symm, hHk.symm⟩
        obtain ⟨W5, hW5⟩ : ∃ W5, W5 = wr.alloc (.cells #[.int .i64 x.kind, .string (M.str x.one), .string (M.str x.two), .slice ca cn cc] 28) := ⟨_, rfl⟩
        have b5 : Below wr.heap.size wr W5 := by rw [hW5]; exact (Below.refl _ _).alloc (Nat.le_refl _) _
        obtain ⟨E, hE⟩ : ∃ E, E = M.doE Ck Hk x := ⟨_, rfl⟩
        have KD : Hid (Calls Tryz.prog 9 #[.agg #[.slice xa4 m xc4, .slice ya4 mh yc4], actV x ca cn cc] W5 fun e w' => ∃ v, e = .returned (.tuple #[v, .int .i64 E]) ∧ RepoOwn w' W5.heap.size v (M.doC Ck Hk x) (M.doH Ck Hk x) ∧ Below W5.heap.size W5 w') := by rw [hE]; exact do_any xa4 m xc4 Ck ya4 mh yc4 Hk x ca cn cc W5 (V4.later b5) (trc.below b5 (Nat.le_refl _)) tcn (M.okA_size hokx)
        unfold actV at KD
        obtain ⟨kd, hkd⟩ : ∃ kd, kd = x.kind := ⟨_, rfl⟩
        obtain ⟨so, hso⟩ : ∃ so, so = M.str x.one := ⟨_, rfl⟩
        obtain ⟨st, hst⟩ : ∃ st, st = M.str x.two := ⟨_, rfl⟩
        rw [← hkd, ← hso, ← hst] at KD hW5
        rw [← hkd] at t0
        rw [← hso] at t1
        rw [← hst] at t2
        have HE : Aside (E = M.doE Ck Hk x) := hE
        have HB5 : Aside (RBox w D Ck Hk W5) := HBk.out.later b5
        have e0 : W5.cell? ⟨D, 0, none⟩ = some (.slice xa4 m xc4) := (b5.cell (p := ⟨D, 0, none⟩) hDl).trans d0
        have e1 : W5.cell? ⟨D, 1, none⟩ = some (.slice ya4 mh yc4) := (b5.cell (p := ⟨D, 1, none⟩) hDl).trans d1
        have HK5 : Hid (∀ j, j < W3.heap.size → j ≠ D → W5.heap[j]? = W3.heap[j]?) := fun j h1 h2 => (b5.block j (Nat.lt_of_lt_of_le h1 hsz)).trans (HKp.out j h1 h2)
        have HW5 : Hid (W5 = wr.alloc (.cells #[.int .i64 kd, .string so, .string st, .slice ca cn cc] 28)) := hW5
        have hs5 : W3.heap.size ≤ W5.heap.size := Nat.le_trans hsz b5.size
        rw [hW5] at e0 e1
        have HBlk5 : Hid (W5.heap[D]? = some (.cells #[.slice xa4 m xc4, .slice ya4 mh yc4] 25 (0, 0))) := (b5.block D hDl).trans blk4
        clear hx hxk hokx hdn hCk hHk hkd hso hst hE hW5 b5 V4 hc4 hm4 hm hmh e4 blk4 o4 trc tcn B1
        go_wp2_with fail
        rw [← HW5.out]
        refine KD.out.mono ?_
        rintro e w6 ⟨v6, rfl, o6, b6⟩
        have hs6 : W3.heap.size ≤ w6.heap.size := Nat.le_trans hs5 b6.size
        have hWw : w.heap.size ≤ W5.heap.size := HB5.out.bel.size
        obtain ⟨q1, q2, rfl, ok6, oh6⟩ := o6
        obtain ⟨xa6, xc6, rfl, _⟩ := ok6.cm
        obtain ⟨ya6, yc6, rfl, _⟩ := oh6.hs
        obtain ⟨m6, hm6⟩ : ∃ m6, m6 = (M.doC Ck Hk x).length := ⟨_, rfl⟩
        obtain ⟨n6, hn6⟩ : ∃ n6, n6 = (M.doH Ck Hk x).length := ⟨_, rfl⟩
        rw [← hm6, ← hn6]
        rw [← hm6] at ok6
        rw [← hn6] at oh6
        obtain ⟨W7, hW7⟩ : ∃ W7, W7 = w6.alloc (.cells #[.slice xa6 m6 xc6, .slice ya6 n6 yc6] 25) := ⟨_, rfl⟩
        have b7 : Below w6.heap.size w6 W7 := by rw [hW7]; exact (Below.refl _ _).alloc (Nat.le_refl _) _
        have q57 : Below W5.heap.size W5 W7 := b6.trans (b7.mono b6.size)
        have HB7 : Aside (RBox w D Ck Hk W7) := HB5.out.later q57
        have hD5 : D < W5.heap.size := HB5.out.lt
        have blk7 : W7.heap[D]? = some (.cells #[.slice xa4 m xc4, .slice ya4 mh yc4] 25 (0, 0)) := (q57.block D hD5).trans HBlk5.out
        have HK7 : Hid (∀ j, j < W3.heap.size → j ≠ D → W7.heap[j]? = W3.heap[j]?) := fun j h1 h2 => (q57.block j (Nat.lt_of_lt_of_le h1 hs5)).trans (HK5.out j h1 h2)
        have hs7 : W3.heap.size ≤ W7.heap.size := Nat.le_trans hs6 b7.size
        have HW7 : Hid (W7 = w6.alloc (.cells #[.slice xa6 m6 xc6, .slice ya6 n6 yc6] 25)) := hW7
        by_cases hE0 : E = 0
        · subst hE0
          have ok7 := (ok6.later b7).lower hWw
          have oh7 := (oh6.later b7).lower hWw
          have HRO := repoOwn_set blk7 ok7 oh7
          obtain ⟨X, hX⟩ : ∃ X, X = (W7.setCell ⟨D, 0, none⟩ (.slice xa6 m6 xc6)).setCell ⟨D, 1, none⟩ (.slice ya6 n6 yc6) := ⟨_, rfl⟩
          obtain ⟨g1, g2, g3⟩ := res_set blk7 (.slice xa6 m6 xc6) (.slice ya6 n6 yc6)
          rw [← hX] at HRO g1 g2 g3
          have HBX : Aside (RBox w D (M.done (xs.take (k + 1))).1 (M.done (xs.take (k + 1))).2 X) := by
            unfold Aside
            rw [HDn.out, if_pos HE.out.symm]
            refine ⟨?_, _, _, g1, HRO⟩
            rw [hX]
            have hwD : w.heap.size ≤ D := by have := HBW1.out.size; have := HW1D.out; omega
            exact (HB7.out.bel.setCell (p := ⟨D, 0, none⟩) hwD _).setCell (p := ⟨D, 1, none⟩) hwD _
          have HKX : Hid (∀ j, j < W3.heap.size → j ≠ D → X.heap[j]? = W3.heap[j]?) := fun j h1 h2 => (g2 j h2).trans (HK7.out j h1 h2)
          have hsX : W3.heap.size ≤ X.heap.size := by rw [g3]; exact hs7
          have HX9 : Hid (X = (W7.setCell ⟨D, 0, none⟩ (.slice xa6 m6 xc6)).setCell ⟨D, 1, none⟩ (.slice ya6 n6 yc6)) := hX
          have x0 : W7.cell? ⟨D, 0, none⟩ = some (.slice xa4 m xc4) := by rw [cell_of_row _ _ _ _ _ _ blk7]; rfl
          have x1 : W7.cell? ⟨D, 1, none⟩ = some (.slice ya4 mh yc4) := by rw [cell_of_row _ _ _ _ _ _ blk7]; rfl
          have f0 : W7.frozen? ⟨D, 0, none⟩ = false := frozen_of_row _ _ _ _ _ blk7
          have f1 : W7.frozen? ⟨D, 1, none⟩ = false := frozen_of_row _ _ _ _ _ blk7
          rw [hW7] at x0 x1 f0 f1
          clear ok6 oh6 ok7 oh7 HRO hX g1 g2 g3 hW7 blk7 b7 b6 q57 hm6 hn6 d0 d1 e0 e1 KD t0 t1 t2 t3
          go_wp2
          rw [← HW7.out, ← HX9.out]
          go_roundg (gk - 1)
          case measure => omega
          case rel => exact ⟨k + 1, by omega, by go_num, HBX, HKX.out, hsX⟩
        · have hEb : (E == 0) = false := by simp [hE0]
          have HBX : Aside (RBox w D (M.done (xs.take (k + 1))).1 (M.done (xs.take (k + 1))).2 W7) := by
            unfold Aside
            rw [HDn.out, if_neg (by rw [← HE.out]; exact hE0), HDk.out.1, HDk.out.2]
            exact HB7.out
          clear ok6 oh6 hW7 blk7 b7 b6 q57 hm6 hn6 d0 d1 e0 e1 KD hE0 t0 t1 t2 t3
          go_wp2
          rw [← HW7.out]
          go_roundg (gk - 1)
          case measure => omega
          case rel => exact ⟨k + 1, by omega, by go_num, HBX, HK7.out, hs7⟩
      · obtain rfl : k = n := by omega
        have hkk2 : decide ((k : Int) < (k : Int)) = false := by simp
        have eT : xs.take k = xs := List.take_of_length_le (by rw [HN.out]; exact Nat.le_refl _)
        rw [eT] at hCk hHk
        have r9 : wr.heap[R]? = some (.cells #[.slice none 0 0, .slice none 0 0] 25 (0, 0)) := (HKp.out R (Array.getElem?_eq_some_iff.1 HR3.out).1 (by omega)).trans HR3.out
        obtain ⟨q1, q2, hqq, ok4, oh4⟩ := o4
        rw [← hm, ← hmh] at hqq
        obtain ⟨rfl, rfl⟩ : q1 = .slice xa4 m xc4 ∧ q2 = .slice ya4 mh yc4 := by simp at hqq; exact ⟨hqq.1.symm, hqq.2.symm⟩
        have HRO : Aside (RepoOwn ((wr.setCell ⟨R, 0, none⟩ (.slice xa4 m xc4)).setCell ⟨R, 1, none⟩ (.slice ya4 mh yc4)) w.heap.size (.agg #[.slice xa4 m xc4, .slice ya4 mh yc4]) (M.done (M.rAs 60 l).1).1 (M.done (M.rAs 60 l).1).2) := by unfold Aside; rw [← HXs.out, ← hCk, ← hHk]; exact repoOwn_set r9 ok4 oh4
        obtain ⟨g1, g2, g3⟩ := res_set r9 (.slice xa4 m xc4) (.slice ya4 mh yc4)
        obtain ⟨X, hX⟩ : ∃ X, X = (wr.setCell ⟨R, 0, none⟩ (.slice xa4 m xc4)).setCell ⟨R, 1, none⟩ (.slice ya4 mh yc4) := ⟨_, rfl⟩
        rw [← hX] at g1 HRO
        have bX : Below w.heap.size w X := by rw [hX]; exact (hbel.setCell (p := ⟨R, 0, none⟩) (by show _ ≤ R; have := HR.out; omega) _).setCell (p := ⟨R, 1, none⟩) (by show _ ≤ R; have := HR.out; omega) _
        have HX9 : Hid (X = (wr.setCell ⟨R, 0, none⟩ (.slice xa4 m xc4)).setCell ⟨R, 1, none⟩ (.slice ya4 mh yc4)) := hX
        have HX0 : Aside (X.cell? ⟨R, 0, none⟩ = some (.slice xa4 m xc4)) := by unfold Aside; rw [cell_of_row _ _ _ _ _ _ g1]; rfl
        have HX1 : Aside (X.cell? ⟨R, 1, none⟩ = some (.slice ya4 mh yc4)) := by unfold Aside; rw [cell_of_row _ _ _ _ _ _ g1]; rfl
        have x0 : wr.cell? ⟨R, 0, none⟩ = some (.slice none 0 0) := by rw [cell_of_row _ _ _ _ _ _ r9]; rfl
        have x1 : wr.cell? ⟨R, 1, none⟩ = some (.slice none 0 0) := by rw [cell_of_row _ _ _ _ _ _ r9]; rfl
        have f0 : wr.frozen? ⟨R, 0, none⟩ = false := frozen_of_row _ _ _ _ _ r9
        have f1 : wr.frozen? ⟨R, 1, none⟩ = false := frozen_of_row _ _ _ _ _ r9
        have HNn : Hid ((M.rAs 60 l).1.length = k) := by unfold Hid; rw [← HXs.out, HN.out]
        clear g1 g2 g3 hX r9 blk4 ok4 oh4 hqq V4 hc4 hm4 hCk hHk hm hmh eT e4
        go_wp2
        rw [← HX9.out]
        have y0 := HX0.out
        have y1 := HX1.out
        refine bodyPost_ret (v := .tuple #[.agg #[.slice xa4 m xc4, .slice ya4 mh yc4], .int .i64 (k : Int), .int .i64 0]) (by simp [results, Tryz.results26, go_sem, y0, y1]) rfl ?_
        exact ⟨bX, Or.inr ⟨HL.out, _, by rw [HNn.out], HRO.out⟩⟩
end Go.Proofs.YtcgpgflnihjpiafGreat

/- The law's shop. -/
namespace Go.Proofs.YtcgpgflnihjpiafGreat
open Go.RowKit

def sMain : ByteArray := ⟨#[109, 97, 105, 110]⟩
def sSide : ByteArray := ⟨#[115, 105, 100, 101]⟩
def shopH : List M.Hd := [(sMain, 3), (sSide, 1)]

theorem Rd.same {w w' : World} {b n : Nat} {l : List (Int × Int)} (h : Rd w (some ⟨b, 0, none⟩) n l) (hb : w'.heap[b]? = w.heap[b]?) (hs : w.heap.size ≤ w'.heap.size) : Rd w' (some ⟨b, 0, none⟩) n l := by
  obtain ⟨h1, h2⟩ := h
  refine ⟨h1, ?_⟩
  rcases h2 with h2 | ⟨b', off', ha, hlt, hc⟩
  · exact Or.inl h2
  · cases ha
    refine Or.inr ⟨b, 0, rfl, by omega, fun i hi => ?_⟩
    rw [World.cell?_of_block (a := ⟨b, 0 + i * 2, none⟩) hb, World.cell?_of_block (a := ⟨b, 0 + i * 2 + 1, none⟩) hb]
    exact hc i hi
theorem Ri.same {w w' : World} {b n : Nat} {l : List Int} (h : Ri w (some ⟨b, 0, none⟩) n l) (hb : w'.heap[b]? = w.heap[b]?) (hs : w.heap.size ≤ w'.heap.size) : Ri w' (some ⟨b, 0, none⟩) n l := by
  obtain ⟨h1, h2⟩ := h
  refine ⟨h1, ?_⟩
  rcases h2 with h2 | ⟨b', off', ha, hlt, hc⟩
  · exact Or.inl h2
  · cases ha
    refine Or.inr ⟨b, 0, rfl, by omega, fun i hi => ?_⟩
    rw [World.cell?_of_block (a := ⟨b, 0 + i, none⟩) hb]
    exact hc i hi
/-- The commits of cross, in blocks from lo to g. -/
def CrossFrom (w : World) (lo g : Nat) : Prop := ∃ f b1 b2 b3 b4, w.heap[g]? = some (.cells (crossC f b1 b2 b3 b4) 51 (0, 0)) ∧ (lo ≤ f ∧ f < g) ∧ (lo ≤ b1 ∧ b1 < g) ∧ (lo ≤ b2 ∧ b2 < g) ∧ (lo ≤ b3 ∧ b3 < g) ∧ (lo ≤ b4 ∧ b4 < g) ∧
  Rd w (some ⟨f, 0, none⟩) 3 dfew ∧ Ri w (some ⟨b1, 0, none⟩) 1 [0] ∧ Ri w (some ⟨b2, 0, none⟩) 1 [0] ∧ Ri w (some ⟨b3, 0, none⟩) 2 [1, 2] ∧ Ri w (some ⟨b4, 0, none⟩) 2 [1, 2]
theorem CrossFrom.keep {w w' : World} {lo g : Nat} (h : CrossFrom w lo g) (hk : ∀ k, lo ≤ k → k ≤ g → w'.heap[k]? = w.heap[k]?) (hs : w.heap.size ≤ w'.heap.size) : CrossFrom w' lo g := by
  obtain ⟨f, b1, b2, b3, b4, h1, k1, k2, k3, k4, k5, r1, r2, r3, r4, r5⟩ := h
  exact ⟨f, b1, b2, b3, b4, (hk g (by omega) (Nat.le_refl _)).trans h1, k1, k2, k3, k4, k5, r1.same (hk f (by omega) (by omega)) hs, r2.same (hk b1 (by omega) (by omega)) hs, r3.same (hk b2 (by omega) (by omega)) hs, r4.same (hk b3 (by omega) (by omega)) hs, r5.same (hk b4 (by omega) (by omega)) hs⟩
theorem CrossFrom.at {w : World} {lo g : Nat} (h : CrossFrom w lo g) : CrossAt w g := by
  obtain ⟨f, b1, b2, b3, b4, h1, k1, k2, k3, k4, k5, r⟩ := h
  exact ⟨f, b1, b2, b3, b4, h1, k1.2, k2.2, k3.2, k4.2, k5.2, r⟩

theorem crossF_any (w : World) : Calls Tryz.prog 82 #[] w fun e w' => ∃ g, e = .returned (.slice (some ⟨g, 0, none⟩) 6 6) ∧ w.heap.size ≤ g ∧ CrossFrom w' w.heap.size g ∧ Below w.heap.size w w' := by
  go_enter Tryz.func82, Tryz.ntmps82
  go_wp2_with fail
  refine (dfew_any _).mono ?_
  rintro e w1 ⟨rfl, r, hb⟩
  have R : Hid (Rd w1 (some ⟨w.heap.size, 0, none⟩) 3 dfew) := r
  have hs := hb.size
  have hlt : w.heap.size < w1.heap.size := by
    rcases r.2 with h | ⟨b, off, e, hl, _⟩
    · omega
    · cases e; exact hl
  clear r
  go_wp2
  go_ret
  have hbW := ((((hb.alloc hs (.cells #[.int .i64 0] 3)).alloc (by simp; omega) (.cells #[.int .i64 0] 3)).alloc (by simp; omega) (.cells #[.int .i64 1, .int .i64 2] 3)).alloc (by simp; omega) (.cells #[.int .i64 1, .int .i64 2] 3)).alloc (by simp; omega) (.cells (crossC w.heap.size w1.heap.size (w1.heap.size + 1) (w1.heap.size + 1 + 1) (w1.heap.size + 1 + 1 + 1)) 51)
  have hbR := (((((Below.refl w1.heap.size w1).alloc (Nat.le_refl _) (.cells #[.int .i64 0] 3)).alloc (by simp) (.cells #[.int .i64 0] 3)).alloc (by simp; omega) (.cells #[.int .i64 1, .int .i64 2] 3)).alloc (by simp; omega) (.cells #[.int .i64 1, .int .i64 2] 3)).alloc (by simp; omega) (.cells (crossC w.heap.size w1.heap.size (w1.heap.size + 1) (w1.heap.size + 1 + 1) (w1.heap.size + 1 + 1 + 1)) 51)
  refine ⟨w1.heap.size + 1 + 1 + 1 + 1, rfl, by omega, ⟨w.heap.size, w1.heap.size, w1.heap.size + 1, w1.heap.size + 1 + 1, w1.heap.size + 1 + 1 + 1, ?_, ⟨by omega, by omega⟩, ⟨by omega, by omega⟩, ⟨by omega, by omega⟩, ⟨by omega, by omega⟩, ⟨by omega, by omega⟩, R.out.below hbR (Nat.le_refl _), ⟨rfl, Or.inr ⟨_, 0, rfl, by simp <;> omega, fun i hi => ?_⟩⟩, ⟨rfl, Or.inr ⟨_, 0, rfl, by simp <;> omega, fun i hi => ?_⟩⟩, ⟨rfl, Or.inr ⟨_, 0, rfl, by simp <;> omega, fun i hi => ?_⟩⟩, ⟨rfl, Or.inr ⟨_, 0, rfl, by simp <;> omega, fun i hi => ?_⟩⟩⟩, hbW⟩
  · rw [show w1.heap.size + 1 + 1 + 1 + 1 = ((((w1.alloc (.cells #[.int .i64 0] 3)).alloc (.cells #[.int .i64 0] 3)).alloc (.cells #[.int .i64 1, .int .i64 2] 3)).alloc (.cells #[.int .i64 1, .int .i64 2] 3)).heap.size by simp]
    exact heap_alloc_new _ _
  · obtain rfl : i = 0 := by omega
    simp [go_sem]
  · obtain rfl : i = 0 := by omega
    simp [go_sem]
  · match i, hi with
    | 0, _ => simp [go_sem]
    | 1, _ => simp [go_sem]
  · match i, hi with
    | 0, _ => simp [go_sem]
    | 1, _ => simp [go_sem]

/-- Where a shop lies: its commits' row g, its heads' row h. -/
structure ShopAt (w : World) (lo g h : Nat) : Prop where
  cr : CrossFrom w lo g
  hd : w.heap[h]? = some (.cells #[.string sMain, .int .i64 3, .string sSide, .int .i64 1] 71 (0, 0))
  gh : g < h
  lg : lo ≤ g
theorem ShopAt.below {w w' : World} {lo g h : Nat} (S : ShopAt w lo g h) (hb : Below w.heap.size w w') : ShopAt w' lo g h := by
  have hlt := (Array.getElem?_eq_some_iff.1 S.hd).1
  exact ⟨S.cr.keep (fun k _ hk => hb.block k (by have := S.gh; omega)) hb.size, (hb.block h hlt).trans S.hd, S.gh, S.lg⟩
theorem hs_block {w : World} {h : Nat} {x y : ByteArray} {i j : Int} (hh : w.heap[h]? = some (.cells #[.string x, .int .i64 i, .string y, .int .i64 j] 71 (0, 0))) (hx : x.size ≤ 8) (hy : y.size ≤ 8) : Hs w (some ⟨h, 0, none⟩) 2 [(x, i), (y, j)] := by
  refine ⟨rfl, Or.inr ⟨h, 0, rfl, (Array.getElem?_eq_some_iff.1 hh).1, fun k hk => ?_⟩⟩
  rw [cell_of_row _ _ _ _ _ _ hh, cell_of_row _ _ _ _ _ _ hh]
  match k, hk with
  | 0, _ => exact ⟨rfl, rfl, by show x.size ≤ _; omega⟩
  | 1, _ => exact ⟨rfl, rfl, by show y.size ≤ _; omega⟩
theorem ShopAt.hs {w : World} {lo g h : Nat} (S : ShopAt w lo g h) : Hs w (some ⟨h, 0, none⟩) 2 shopH := hs_block S.hd (by decide) (by decide)
theorem ShopAt.cm {w : World} {lo g h : Nat} (S : ShopAt w lo g h) : Cm w (some ⟨g, 0, none⟩) 6 crossL := S.cr.at.cm

set_option maxHeartbeats 2000000 in
theorem shop_any (w : World) : Calls Tryz.prog 30 #[] w fun e w' => ∃ g h, e = .returned (.agg #[.slice (some ⟨g, 0, none⟩) 6 6, .slice (some ⟨h, 0, none⟩) 2 2]) ∧ ShopAt w' w.heap.size g h ∧ Below w.heap.size w w' := by
  obtain ⟨p, hp⟩ : ∃ p, p = w.heap.size := ⟨_, rfl⟩
  obtain ⟨W, hW⟩ : ∃ W, W = w.alloc (.cells #[.slice none 0 0, .slice none 0 0] 25) := ⟨_, rfl⟩
  have hb0 : Below w.heap.size w W := by rw [hW]; exact (Below.refl _ _).alloc (Nat.le_refl _) _
  have hWs : W.heap.size = p + 1 := by rw [hW, hp]; simp
  have hWp : W.heap[p]? = some (.cells #[.slice none 0 0, .slice none 0 0] 25 (0, 0)) := by rw [hW, hp]; exact heap_alloc_new _ _
  have HC : Hid (Calls Tryz.prog 82 #[] W fun e w' => ∃ g, e = .returned (.slice (some ⟨g, 0, none⟩) 6 6) ∧ W.heap.size ≤ g ∧ CrossFrom w' W.heap.size g ∧ Below W.heap.size W w') := crossF_any W
  have HW : Hid (W = w.alloc (.cells #[.slice none 0 0, .slice none 0 0] 25)) := hW
  have HP : Aside (p = w.heap.size) := hp
  clear hW hp
  go_enter Tryz.func30, Tryz.ntmps30
  go_wp2_with fail
  rw [← HW.out, ← HP.out]
  refine HC.out.mono ?_
  rintro e w1 ⟨g, rfl, hg, hcr, hb1⟩
  have hg1 := hcr.at.lt
  have hs1 := hb1.size
  have hp1 : w1.heap[p]? = some (.cells #[.slice none 0 0, .slice none 0 0] 25 (0, 0)) := (hb1.block p (by omega)).trans hWp
  have hp1l : p < w1.heap.size := by omega
  have j0 : w1.cell? ⟨p, 0, none⟩ = some (.slice none 0 0) := by rw [cell_of_row _ _ _ _ _ _ hp1]; rfl
  have j1 : w1.cell? ⟨p, 1, none⟩ = some (.slice none 0 0) := by rw [cell_of_row _ _ _ _ _ _ hp1]; rfl
  have f0 : w1.frozen? ⟨p, 0, none⟩ = false := frozen_of_row _ _ _ _ _ hp1
  have f1 : w1.frozen? ⟨p, 1, none⟩ = false := frozen_of_row _ _ _ _ _ hp1
  have hp3 := heap_setCell_same w1 p 0 _ _ (.slice (some ⟨g, 0, none⟩) 6 6) hp1
  have f2 : (w1.setCell ⟨p, 0, none⟩ (.slice (some ⟨g, 0, none⟩) 6 6)).frozen? ⟨p, 1, none⟩ = false := frozen_of_row _ _ _ _ _ hp3
  have f3 : ((w1.setCell ⟨p, 0, none⟩ (.slice (some ⟨g, 0, none⟩) 6 6)).alloc (.cells #[.string ⟨#[109, 97, 105, 110]⟩, .int .i64 3, .string ⟨#[115, 105, 100, 101]⟩, .int .i64 1] 71)).frozen? ⟨p, 1, none⟩ = false := frozen_of_row _ _ _ _ _ (by rw [Below.heap_alloc _ _ _ (by simp [World.setCell]; omega)]; exact hp3)
  have hp4 := heap_setCell_same _ p 1 _ _ (.slice (some ⟨w1.heap.size, 0, none⟩) 2 2) hp3
  obtain ⟨Y, hY⟩ : ∃ Y, Y = (w1.setCell ⟨p, 0, none⟩ (.slice (some ⟨g, 0, none⟩) 6 6)).setCell ⟨p, 1, none⟩ (.slice (some ⟨w1.heap.size, 0, none⟩) 2 2) := ⟨_, rfl⟩
  have hYk : ∀ k, k ≠ p → Y.heap[k]? = w1.heap[k]? := fun k hk => by rw [hY, heap_setCell_other _ _ _ _ (by exact hk), heap_setCell_other _ _ _ _ (by exact hk)]
  have hYs : Y.heap.size = w1.heap.size := by rw [hY]; simp [World.setCell]
  rw [← hY] at hp4
  obtain ⟨X, hX⟩ : ∃ X, X = Y.alloc (.cells #[.string ⟨#[109, 97, 105, 110]⟩, .int .i64 3, .string ⟨#[115, 105, 100, 101]⟩, .int .i64 1] 71) := ⟨_, rfl⟩
  have hXo : ∀ k, k < w1.heap.size → X.heap[k]? = Y.heap[k]? := fun k hk => by rw [hX]; exact Below.heap_alloc _ _ _ (by omega)
  have hXh : X.heap[w1.heap.size]? = some (.cells #[.string sMain, .int .i64 3, .string sSide, .int .i64 1] 71 (0, 0)) := by rw [hX, ← hYs]; exact heap_alloc_new _ _
  have hXp : X.heap[p]? = some (.cells #[.slice (some ⟨g, 0, none⟩) 6 6, .slice (some ⟨w1.heap.size, 0, none⟩) 2 2] 25 (0, 0)) := (hXo p hp1l).trans hp4
  have hXs : w1.heap.size ≤ X.heap.size := by rw [hX]; simp [hYs]
  have x0 : X.cell? ⟨p, 0, none⟩ = some (.slice (some ⟨g, 0, none⟩) 6 6) := by rw [cell_of_row _ _ _ _ _ _ hXp]; rfl
  have x1 : X.cell? ⟨p, 1, none⟩ = some (.slice (some ⟨w1.heap.size, 0, none⟩) 2 2) := by rw [cell_of_row _ _ _ _ _ _ hXp]; rfl
  have HE : Aside (ShopAt X p g w1.heap.size ∧ Below w.heap.size w X) := by
    have c1 : Below w.heap.size w w1 := hb0.trans (hb1.mono hb0.size)
    refine ⟨⟨?_, hXh, hg1, by omega⟩, ?_⟩
    · have h1 := hcr.keep (w' := X) (fun k h1 h2 => by rw [hXo k (by omega), hYk k (by omega)]) hXs
      obtain ⟨f, b1, b2, b3, b4, h1, k1, k2, k3, k4, k5, r⟩ := h1
      exact ⟨f, b1, b2, b3, b4, h1, ⟨by omega, k1.2⟩, ⟨by omega, k2.2⟩, ⟨by omega, k3.2⟩, ⟨by omega, k4.2⟩, ⟨by omega, k5.2⟩, r⟩
    · have c2 : Below w.heap.size w Y := by rw [hY]; exact (c1.setCell (p := ⟨p, 0, none⟩) (by show w.heap.size ≤ p; rw [HP.out]; exact Nat.le_refl _) _).setCell (p := ⟨p, 1, none⟩) (by show w.heap.size ≤ p; rw [HP.out]; exact Nat.le_refl _) _
      rw [hX]; exact c2.alloc (by rw [hYs]; exact c1.size) _
  have HX : Hid (X = ((w1.setCell ⟨p, 0, none⟩ (.slice (some ⟨g, 0, none⟩) 6 6)).setCell ⟨p, 1, none⟩ (.slice (some ⟨w1.heap.size, 0, none⟩) 2 2)).alloc (.cells #[.string ⟨#[109, 97, 105, 110]⟩, .int .i64 3, .string ⟨#[115, 105, 100, 101]⟩, .int .i64 1] 71)) := by rw [← hY]; exact hX
  rw [HP.out] at HE
  have HX0 : Aside (X.cell? ⟨p, 0, none⟩ = some (.slice (some ⟨g, 0, none⟩) 6 6)) := x0
  have HX1 : Aside (X.cell? ⟨p, 1, none⟩ = some (.slice (some ⟨w1.heap.size, 0, none⟩) 2 2)) := x1
  clear hX hY hp3 hp4 hXo hXh hXp hYk hYs hXs hp1 hWp hWs hcr x0 x1
  go_wp2
  rw [← HX.out]
  have x0 := HX0.out
  have x1 := HX1.out
  refine bodyPost_ret (v := .agg #[.slice (some ⟨g, 0, none⟩) 6 6, .slice (some ⟨w1.heap.size, 0, none⟩) 2 2]) (by simp [results, Tryz.results30, go_sem, x0, x1]) rfl ?_
  exact ⟨g, w1.heap.size, rfl, HE.out.1, HE.out.2⟩
end Go.Proofs.YtcgpgflnihjpiafGreat

/- The shop, as a repo. -/
namespace Go.Proofs.YtcgpgflnihjpiafGreat
open Go.RowKit

theorem ShopAt.v2 {w : World} {lo g h : Nat} (S : ShopAt w lo g h) : RepoV w (some ⟨g, 0, none⟩) 6 6 crossL (some ⟨h, 0, none⟩) 2 2 shopH := by
  refine ⟨S.cm, ?_, by omega, S.hs, by omega, fun h => by cases h⟩
  intro b off e i hi x m c hor hx
  cases e
  obtain ⟨f, b1, b2, b3, b4, h1, _⟩ := S.cr
  subst hx
  rw [cell_of_row _ _ _ _ _ _ h1, cell_of_row _ _ _ _ _ _ h1] at hor
  match i, hi with
  | 0, _ => simpa [crossC, eq_comm] using hor
  | 1, _ => simp [crossC] at hor
  | 2, _ => simpa [crossC, eq_comm] using hor
  | 3, _ => simpa [crossC, eq_comm] using hor
  | 4, _ => simpa [crossC, eq_comm] using hor
  | 5, _ => simpa [crossC, eq_comm] using hor
end Go.Proofs.YtcgpgflnihjpiafGreat

/- What must be in any case of the log. -/
namespace Go.Proofs.YtcgpgflnihjpiafGreat
open Go.RowKit

def lbP : M.Act := ⟨1, [109, 97, 105, 110], [], [(3, -1, 700)]⟩
def lbB : M.Act := ⟨2, [98], [109, 97, 105, 110], []⟩
def lbK : M.Act := ⟨256, [], [], []⟩
def lb0 : M.Act := ⟨0, [], [], []⟩
def lbS : M.By := [1, 4, 109, 97, 105, 110, 0, 1, 3, 0, 0, 2, 189]
def lbT : M.By := [2, 1, 98, 4, 109, 97, 105, 110, 0]
theorem lb1 : M.wA lbP = (lbS, false) := by decide +kernel
theorem lb2 : M.wA lbB = (lbT, false) := by decide +kernel
theorem lb3 : (M.wA lbK).2 = true := by decide +kernel
theorem lb4 : M.rAs 60 (lbS ++ lbT ++ [1]) = ([lbP, lbB], [1]) := by kernel_rfl
theorem lb5 : M.rAs 60 (lbS ++ lbT) = ([lbP, lbB], []) := by kernel_rfl
theorem lb6 : (M.done [lbP, lbB]).1.length = 2 ∧ (M.done [lbP, lbB]).2.length = 2 := by decide +kernel
theorem lb7 : M.doE crossL shopH lb0 = 8 := by decide +kernel
theorem str_append (a b : M.By) : M.str a ++ M.str b = M.str (a ++ b) := by
  apply ByteArray.ext
  simp [M.str]

set_option maxRecDepth 100000 in
set_option maxHeartbeats 8000000 in
theorem lbegun_any (w : World) : Calls Tryz.prog 20 #[] w fun e w' => e = .returned (.bool true) ∧ Below w.heap.size w w' := by
  obtain ⟨sp, hsp⟩ : ∃ sp, sp = M.str lbS := ⟨_, rfl⟩
  obtain ⟨sb, hsb⟩ : ∃ sb, sb = M.str lbT := ⟨_, rfl⟩
  have zp : sp.size = 13 := by rw [hsp]; rfl
  have zb : sb.size = 9 := by rw [hsb]; rfl
  have HC1 : Hid (sp ++ sb ++ ⟨#[1]⟩ = M.str (lbS ++ lbT ++ [1])) := by unfold Hid; rw [hsp, hsb, show (⟨#[1]⟩ : ByteArray) = M.str [1] from rfl, str_append, str_append]
  have HC2 : Hid (sp ++ sb = M.str (lbS ++ lbT)) := by unfold Hid; rw [hsp, hsb, str_append]
  have KP : Hid (∀ V : World, Calls Tryz.prog 21 #[.agg #[.int .i64 1, .string ⟨#[109, 97, 105, 110]⟩, .string ⟨#[]⟩, .slice (some ⟨V.heap.size, 0, none⟩) 1 1]] (V.alloc (.cells #[.int .i64 3, .int .i64 (-1), .int .i64 700] 69)) fun e w' => e = .returned (.tuple #[.string sp, .int .i64 0]) ∧ Below V.heap.size V w') := fun V => by
    have b0 : Below V.heap.size V (V.alloc (.cells #[.int .i64 3, .int .i64 (-1), .int .i64 700] 69)) := (Below.refl _ _).alloc (Nat.le_refl _) _
    have K := write_any lbP (some ⟨V.heap.size, 0, none⟩) 1 1 (V.alloc (.cells #[.int .i64 3, .int .i64 (-1), .int .i64 700] 69)) ⟨rfl, Or.inr ⟨V.heap.size, 0, rfl, by simp, fun i hi => by obtain rfl : i = 0 := (by omega); simp [go_sem, lbP]⟩⟩ (by omega) (by decide) (by decide) (by simp [lbP, M.inI])
    rw [lb1] at K
    refine K.mono ?_
    rintro e w' ⟨rfl, h⟩
    exact ⟨by rw [hsp]; rfl, dbelow2 b0 h⟩
  have KB : Hid (∀ V : World, Calls Tryz.prog 21 #[.agg #[.int .i64 2, .string ⟨#[98]⟩, .string ⟨#[109, 97, 105, 110]⟩, .slice none 0 0]] V fun e w' => e = .returned (.tuple #[.string sb, .int .i64 0]) ∧ Below V.heap.size V w') := fun V => by
    have K := write_any lbB none 0 0 V ⟨rfl, Or.inl rfl⟩ (by omega) (by decide) (by decide) (by simp [lbB])
    rw [lb2] at K
    refine K.mono ?_
    rintro e w' ⟨rfl, h⟩
    exact ⟨by rw [hsb]; rfl, h⟩
  have KK : Hid (∀ V : World, Calls Tryz.prog 21 #[.agg #[.int .i64 256, .string ⟨#[]⟩, .string ⟨#[]⟩, .slice none 0 0]] V fun e w' => e = .returned (.tuple #[.string ⟨#[]⟩, .int .i64 3]) ∧ Below V.heap.size V w') := fun V => by
    have K := write_any lbK none 0 0 V ⟨rfl, Or.inl rfl⟩ (by omega) (by decide) (by decide) (by simp [lbK])
    rw [lb3] at K
    refine K.mono ?_
    rintro e w' ⟨rfl, h⟩
    exact ⟨rfl, h⟩
  have KR : Hid (∀ V : World, Calls Tryz.prog 23 #[.string (M.str (lbS ++ lbT ++ [1]))] V fun e w' => ∃ a cap, e = .returned (.tuple #[.slice a 2 cap, .int .i64 22, .int .i64 0]) ∧ Ac w' a 2 [lbP, lbB] ∧ Below V.heap.size V w') := fun V => by
    refine (replay_any (lbS ++ lbT ++ [1]) V (by decide)).mono ?_
    rintro e w' ⟨hb, ⟨h, _⟩ | ⟨_, v, rfl, ho⟩⟩
    · exact absurd h (by decide)
    · rw [lb4] at ho ⊢
      obtain ⟨a, cap, rfl, h1, _⟩ := ho.ac
      exact ⟨a, cap, rfl, h1, hb⟩
  have KC : Hid (∀ V : World, Calls Tryz.prog 26 #[.string (M.str (lbS ++ lbT))] V fun e w' => ∃ a cap a2 cap2, e = .returned (.tuple #[.agg #[.slice a 2 cap, .slice a2 2 cap2], .int .i64 2, .int .i64 0]) ∧ Below V.heap.size V w') := fun V => by
    refine (recover_any (lbS ++ lbT) V (by decide)).mono ?_
    rintro e w' ⟨hb, ⟨h, _⟩ | ⟨_, v, rfl, ho⟩⟩
    · exact absurd h (by decide)
    · rw [lb5] at ho ⊢
      obtain ⟨xa, xc, ya, yc, rfl, _⟩ := ho.v
      rw [lb6.1, lb6.2]
      exact ⟨xa, xc, ya, yc, rfl, hb⟩
  have KD : Hid (∀ (V : World) (g h lo : Nat), ShopAt V lo g h → Calls Tryz.prog 9 #[.agg #[.slice (some ⟨g, 0, none⟩) 6 6, .slice (some ⟨h, 0, none⟩) 2 2], .agg #[.int .i64 0, .string ⟨#[]⟩, .string ⟨#[]⟩, .slice none 0 0]] V fun e w' => ∃ a n cap a2 n2 cap2, e = .returned (.tuple #[.agg #[.slice a n cap, .slice a2 n2 cap2], .int .i64 8]) ∧ Below V.heap.size V w') := fun V g h lo S => by
    have K := do_any _ _ _ _ _ _ _ _ lb0 none 0 0 V S.v2 ⟨rfl, Or.inl rfl⟩ (by omega) (by decide)
    rw [lb7] at K
    refine K.mono ?_
    rintro e w' ⟨v, rfl, ho, hb⟩
    obtain ⟨xa, xc, ya, yc, rfl, _⟩ := ho.v
    exact ⟨_, _, _, _, _, _, rfl, hb⟩
  clear hsp hsb
  go_enter Tryz.func20, Tryz.ntmps20
  go_wp2_with fail
  refine (KP.out w).mono ?_
  rintro e w1 ⟨rfl, b1⟩
  go_wp2_with fail
  refine (KB.out w1).mono ?_
  rintro e w2 ⟨rfl, bb⟩
  have b2 := dbelow2 b1 bb
  clear b1 bb KP KB
  go_wp2_with fail
  rw [HC1.out]
  refine (KR.out w2).mono ?_
  rintro e w3 ⟨la, lc, rfl, hAc, bb⟩
  have b3 := dbelow2 b2 bb
  have HAc : Hid (Ac w3 la 2 [lbP, lbB]) := hAc
  clear b2 bb KR hAc
  go_wp2_with fail
  rw [HC2.out]
  refine (KC.out w3).mono ?_
  rintro e w4 ⟨xa, xc, ya, yc, rfl, bb⟩
  have b4 := dbelow2 b3 bb
  have HAc4 : Hid (Ac w4 la 2 [lbP, lbB]) := HAc.out.below bb
  obtain ⟨X, hX⟩ : ∃ X, X = w4.alloc (.cells #[.slice xa 2 xc, .slice ya 2 yc] 25) := ⟨_, rfl⟩
  obtain ⟨pX, hpX⟩ : ∃ p, p = w4.heap.size := ⟨_, rfl⟩
  have bX : Below w4.heap.size w4 X := by rw [hX]; exact (Below.refl _ _).alloc (Nat.le_refl _) _
  have hX0 : X.heap[pX]? = some (.cells #[.slice xa 2 xc, .slice ya 2 yc] 25 (0, 0)) := by rw [hX, hpX]; exact heap_alloc_new _ _
  have HX0 : Hid (X.heap[pX]? = some (.cells #[.slice xa 2 xc, .slice ya 2 yc] 25 (0, 0))) := hX0
  have HX : Hid (X = w4.alloc (.cells #[.slice xa 2 xc, .slice ya 2 yc] 25)) := hX
  have HPX : Aside (pX = w4.heap.size) := hpX
  have b5 := dbelow2 b4 bX
  have HAc5 : Hid (Ac X la 2 [lbP, lbB]) := HAc4.out.below bX
  clear b3 b4 bb KC hX hpX bX hX0 HAc HAc4
  go_wp2_with fail
  rw [← HX.out, ← HPX.out]
  refine (KK.out X).mono ?_
  rintro e w6 ⟨rfl, b6⟩
  clear KK
  go_wp2_with fail
  refine (shop_any _).mono ?_
  rintro e w7 ⟨g0, h0, rfl, S0, b7⟩
  have HS : Hid (ShopAt w7 _ g0 h0) := S0
  clear S0
  go_wp2_with fail
  refine (KD.out w7 _ _ _ HS.out).mono ?_
  rintro e w8 ⟨da, dn, dc, ea, en, ec, rfl, b8⟩
  obtain ⟨Y, hY⟩ : ∃ Y, Y = w8.alloc (.cells #[.slice da dn dc, .slice ea en ec] 25) := ⟨_, rfl⟩
  have bY : Below w8.heap.size w8 Y := by rw [hY]; exact (Below.refl _ _).alloc (Nat.le_refl _) _
  have qY : Below X.heap.size X Y := dbelow2 (dbelow2 b6 b7) (dbelow2 b8 bY)
  have bF := dbelow2 b5 qY
  have hY0 := (qY.block pX (Array.getElem?_eq_some_iff.1 HX0.out).1).trans HX0.out
  have y0 : Y.cell? ⟨pX, 0, none⟩ = some (.slice xa 2 xc) := by rw [cell_of_row _ _ _ _ _ _ hY0]; rfl
  have y1 : Y.cell? ⟨pX, 1, none⟩ = some (.slice ya 2 yc) := by rw [cell_of_row _ _ _ _ _ _ hY0]; rfl
  obtain ⟨_, h0 | ⟨lb, lo, rfl, _, hcs⟩⟩ := HAc5.out.below qY
  · omega
  obtain ⟨ca, cn, cc, _, _, _, d3, hd⟩ := hcs 0 (by omega)
  obtain ⟨hcn, h0 | ⟨kb, ko, rfl, _, hk⟩⟩ := hd.1
  · exact absurd (hcn.trans h0) (by decide)
  obtain rfl : cn = 1 := hcn.symm
  obtain ⟨k0, k1, k2⟩ := hk 0 (by omega)
  have k0 : Y.cell? ⟨kb, ko, none⟩ = some (.int .i64 3) := k0
  have k1 : Y.cell? ⟨kb, ko + 1, none⟩ = some (.int .i64 (-1)) := k1
  have k2 : Y.cell? ⟨kb, ko + 2, none⟩ = some (.int .i64 700) := k2
  have d3 : Y.cell? ⟨lb, lo + 3, none⟩ = some (.slice (some ⟨kb, ko, none⟩) 1 cc) := d3
  have HY : Hid (Y = w8.alloc (.cells #[.slice da dn dc, .slice ea en ec] 25)) := hY
  rw [hY] at k0 k1 k2 d3 y0 y1
  clear hk hcs hY0 bY qY b5 b6 b7 b8 hY hd
  go_wp2
  rw [← HY.out]
  go_ret
  exact ⟨rfl, bF⟩
end Go.Proofs.YtcgpgflnihjpiafGreat

/- SameInts. -/
namespace Go.Proofs.YtcgpgflnihjpiafGreat
open Go.RowKit

theorem iret_no {p : Prop} [Decidable p] (h : ¬ p) : Ending.returned (.bool false) = .returned (.bool (decide p)) := by rw [decide_eq_false h]
theorem iret_yes {p : Prop} [Decidable p] (h : p) : Ending.returned (.bool true) = .returned (.bool (decide p)) := by rw [decide_eq_true h]

/-! ### SameInts -/
theorem isame_len (a a2 : Option Addr) (n n2 cap cap2 : Nat) (w : World) (h : n ≠ n2) :
    Calls Tryz.prog 31 #[.slice a n cap, .slice a2 n2 cap2] w fun e w' => e = .returned (.bool false) ∧ w' = w := by
  have hb : ((n : Int) != (n2 : Int)) = true := by simp; omega
  go_enter Tryz.func31, Tryz.ntmps31
  go_wp2
  go_ret
  exact ⟨rfl, rfl⟩
theorem isame_none (a a2 : Option Addr) (cap cap2 : Nat) (w : World) :
    Calls Tryz.prog 31 #[.slice a 0 cap, .slice a2 0 cap2] w fun e w' => e = .returned (.bool true) ∧ w' = w := by
  go_enter Tryz.func31, Tryz.ntmps31
  go_wp2
  refine wp_loop_rounds 1 ?_
  rw [rounds_succ]
  go_wp2
  go_ret
  exact ⟨rfl, rfl⟩
set_option maxHeartbeats 2000000 in
theorem isame_some (b off b2 off2 n cap cap2 : Nat) (l l2 : List Int) (w : World) (hm : n ≤ 9223372036854775807) (hl : l.length = n) (hl2 : l2.length = n)
    (hc : ∀ i, i < n → w.cell? ⟨b, off + i, none⟩ = some (.int .i64 (l.getD i 0)))
    (hc2 : ∀ i, i < n → w.cell? ⟨b2, off2 + i, none⟩ = some (.int .i64 (l2.getD i 0))) :
    Calls Tryz.prog 31 #[.slice (some ⟨b, off, none⟩) n cap, .slice (some ⟨b2, off2, none⟩) n cap2] w fun e w' => e = .returned (.bool (decide (l = l2))) ∧ ∃ m, w' = w.drewN m := by
  have HC : Aside (∀ i, i < n → w.cell? ⟨b, off + i, none⟩ = some (.int .i64 (l.getD i 0))) := hc
  have HC2 : Aside (∀ i, i < n → w.cell? ⟨b2, off2 + i, none⟩ = some (.int .i64 (l2.getD i 0))) := hc2
  have HL : Aside (l.length = n) := hl
  have HL2 : Aside (l2.length = n) := hl2
  clear hc hl hc2 hl2
  go_enter Tryz.func31, Tryz.ntmps31
  go_wp2
  go_loopg [5] n (fun g i wr => ∃ k m : Nat, k + g = n ∧ i = .int .i64 k ∧ wr = w.drewN m ∧ Aside (l.drop k = l2.drop k ↔ l = l2))
  case atStart => exact ⟨0, 0, by omega, rfl, rfl, by simp [Aside]⟩
  case round =>
    obtain ⟨k, m, hk, rfl, rfl, A⟩ := hrel
    by_cases hlt : k < n
    · obtain ⟨x, hx⟩ : ∃ x, l.getD k 0 = x := ⟨_, rfl⟩
      obtain ⟨y, hy⟩ : ∃ y, l2.getD k 0 = y := ⟨_, rfl⟩
      have c0 : w.cell? ⟨b, off + k, none⟩ = some (.int .i64 x) := by rw [HC.out k hlt, hx]
      have d0 : w.cell? ⟨b2, off2 + k, none⟩ = some (.int .i64 y) := by rw [HC2.out k hlt, hy]
      have ed : (l.drop k = l2.drop k) ↔ x = y ∧ l.drop (k + 1) = l2.drop (k + 1) := by
        rw [M.idrop l k (by rw [HL.out]; exact hlt), M.idrop l2 k (by rw [HL2.out]; exact hlt), List.cons.injEq, hx, hy]
      rw [A.out] at ed
      have ED : Aside (l = l2 ↔ x = y ∧ l.drop (k + 1) = l2.drop (k + 1)) := ed
      clear hx hy ed A
      have hki : (k : Int) < (n : Int) := by omega
      by_cases hxy : x = y
      · have hxb : (x == y) = true := by simp [hxy]
        have A1 : Aside (l.drop (k + 1) = l2.drop (k + 1) ↔ l = l2) := by unfold Aside; rw [ED.out]; simp [hxy]
        clear hxy
        go_wp2_with fail
        go_quiet (fail)
        go_wp2
        go_roundg (gk - 1)
        case measure => omega
        case rel => exact ⟨k + 1, m + nq, by omega, by go_num, rfl, A1⟩
      · have hxb : (x == y) = false := by simp [hxy]
        have A1 : Aside (l ≠ l2) := by unfold Aside; intro e; exact hxy (ED.out.1 e).1
        clear hxy
        go_wp2_with fail
        go_quiet (fail)
        go_wp2
        go_ret
        exact ⟨iret_no A1.out, m + nq, World.drewN_drewN _ _ _⟩
    · go_wp2
      go_ret
      exact ⟨iret_yes (A.out.1 (by rw [List.drop_eq_nil_of_le (by rw [HL.out]; omega), List.drop_eq_nil_of_le (by rw [HL2.out]; omega)])), m, rfl⟩
theorem isame_any (a a2 : Option Addr) (n n2 cap cap2 : Nat) (l l2 : List Int) (w : World) (h : Ri w a n l) (h2 : Ri w a2 n2 l2) (hm : n ≤ 9223372036854775807) :
    Calls Tryz.prog 31 #[.slice a n cap, .slice a2 n2 cap2] w fun e w' => e = .returned (.bool (decide (l = l2))) ∧ Below w.heap.size w w' := by
  by_cases hn : n = n2
  · subst hn
    rcases h.cases with ⟨rfl, rfl⟩ | ⟨b, off, rfl, hn, hl, hB, hc⟩
    · have e2 : l2 = [] := List.eq_nil_of_length_eq_zero h2.1
      subst e2
      refine (isame_none a a2 cap cap2 w).mono ?_
      rintro e w' ⟨rfl, rfl⟩
      exact ⟨rfl, Below.refl _ _⟩
    · rcases h2.cases with ⟨rfl, rfl⟩ | ⟨b2, off2, rfl, hn2, hl2, hB2, hc2⟩
      · omega
      · refine (isame_some b off b2 off2 n cap cap2 l l2 w hm hl hl2 hc hc2).mono ?_
        rintro e w' ⟨rfl, m, rfl⟩
        exact ⟨rfl, below_drewN (Below.refl _ _) m⟩
  · refine (isame_len a a2 n n2 cap cap2 w hn).mono ?_
    rintro e w' ⟨rfl, rfl⟩
    exact ⟨iret_no (fun e => hn (by rw [← h.1, ← h2.1, e])), Below.refl _ _⟩

end Go.Proofs.YtcgpgflnihjpiafGreat

/- SameRepos, of two that are the same. -/
namespace Go.Proofs.YtcgpgflnihjpiafGreat
open Go.RowKit

theorem same_yes (a a2 : Option Addr) (n cap cap2 : Nat) (l : List (Int × Int)) (w : World) (h : Rd w a n l) (h2 : Rd w a2 n l) (hm : n ≤ 9223372036854775807) :
    Calls Tryz.prog 18 #[.slice a n cap, .slice a2 n cap2] w fun e w' => e = .returned (.bool true) ∧ ∃ m, w' = w.drewN m := by
  rcases h.cases with ⟨rfl, rfl⟩ | ⟨b, off, rfl, hn, hl, hB, hc⟩
  · refine (same_none a a2 cap cap2 w).mono ?_
    rintro e w' ⟨rfl, rfl⟩
    exact ⟨rfl, 0, rfl⟩
  · rcases h2.cases with ⟨rfl, rfl⟩ | ⟨b2, off2, rfl, hn2, hl2, hB2, hc2⟩
    · omega
    · refine (same_some b off b2 off2 n cap cap2 l l w hm hl hl2 hc hc2).mono ?_
      rintro e w' ⟨rfl, m, rfl⟩
      exact ⟨ret_bool (by simp), m, rfl⟩
theorem isame_yes (a a2 : Option Addr) (n cap cap2 : Nat) (l : List Int) (w : World) (h : Ri w a n l) (h2 : Ri w a2 n l) (hm : n ≤ 9223372036854775807) :
    Calls Tryz.prog 31 #[.slice a n cap, .slice a2 n cap2] w fun e w' => e = .returned (.bool true) ∧ ∃ m, w' = w.drewN m := by
  rcases h.cases with ⟨rfl, rfl⟩ | ⟨b, off, rfl, hn, hl, hB, hc⟩
  · refine (isame_none a a2 cap cap2 w).mono ?_
    rintro e w' ⟨rfl, rfl⟩
    exact ⟨rfl, 0, rfl⟩
  · rcases h2.cases with ⟨rfl, rfl⟩ | ⟨b2, off2, rfl, hn2, hl2, hB2, hc2⟩
    · omega
    · refine (isame_some b off b2 off2 n cap cap2 l l w hm hl hl2 hc hc2).mono ?_
      rintro e w' ⟨rfl, m, rfl⟩
      exact ⟨ret_bool (by simp), m, rfl⟩

theorem Cm.at {w : World} {a : Option Addr} {n : Nat} {L : List M.Com} (h : Cm w a n L) {k : Nat} (hk : k < n) : ∃ b off, a = some ⟨b, off, none⟩ ∧ ∃ a1 n1 c1 a2 n2 c2, w.cell? ⟨b, off + k * 2, none⟩ = some (.slice a1 n1 c1) ∧ w.cell? ⟨b, off + k * 2 + 1, none⟩ = some (.slice a2 n2 c2) ∧ Rd w a1 n1 (L.getD k ([], [])).1 ∧ Ri w a2 n2 (L.getD k ([], [])).2 ∧ n1 ≤ 9223372036854775807 ∧ n2 ≤ 9223372036854775807 := by
  rcases h.cases with ⟨h0, _⟩ | ⟨b, off, e, _, _, _, hc⟩
  · omega
  · exact ⟨b, off, e, hc k hk⟩
theorem Hs.at {w : World} {a : Option Addr} {n : Nat} {H : List M.Hd} (h : Hs w a n H) {k : Nat} (hk : k < n) : ∃ b off, a = some ⟨b, off, none⟩ ∧ w.cell? ⟨b, off + k * 2, none⟩ = some (.string (H.getD k M.hd0).1) ∧ w.cell? ⟨b, off + k * 2 + 1, none⟩ = some (.int .i64 (H.getD k M.hd0).2) := by
  rcases h.cases with ⟨h0, _⟩ | ⟨b, off, e, _, _, _, hc⟩
  · omega
  · exact ⟨b, off, e, (hc k hk).1, (hc k hk).2.1⟩

set_option maxHeartbeats 8000000 in
theorem srepos_yes (a a' : Option Addr) (n cap cap' : Nat) (C : List M.Com) (a2 a2' : Option Addr) (n2 cap2 cap2' : Nat) (H : List M.Hd) (w : World) (hC : Cm w a n C) (hC' : Cm w a' n C) (hn : n ≤ 9223372036854775807) (hH : Hs w a2 n2 H) (hH' : Hs w a2' n2 H) (hn2 : n2 ≤ 9223372036854775807) :
    Calls Tryz.prog 12 #[.agg #[.slice a n cap, .slice a2 n2 cap2], .agg #[.slice a' n cap', .slice a2' n2 cap2']] w fun e w' => e = .returned (.bool true) ∧ Below w.heap.size w w' := by
  obtain ⟨p, hp⟩ : ∃ p, p = w.heap.size := ⟨_, rfl⟩
  have I0 := InBox.new w a n cap C a2 n2 cap2 H hC hH
  have hb0 : Below w.heap.size w (w.alloc (.cells #[.slice a n cap, .slice a2 n2 cap2] 25)) := (Below.refl _ _).alloc (Nat.le_refl _) _
  have I1 := InBox.new (w.alloc (.cells #[.slice a n cap, .slice a2 n2 cap2] 25)) a' n cap' C a2' n2 cap2' H (hC'.below hb0 (Nat.le_refl _)) (hH'.below hb0 (Nat.le_refl _))
  obtain ⟨W, hW⟩ : ∃ W, W = (w.alloc (.cells #[.slice a n cap, .slice a2 n2 cap2] 25)).alloc (.cells #[.slice a' n cap', .slice a2' n2 cap2'] 25) := ⟨_, rfl⟩
  have I0 := I0.below (w' := W) (by rw [hW]; exact (Below.refl _ _).alloc (Nat.le_refl _) _)
  have hb : Below w.heap.size w W := by rw [hW]; exact hb0.alloc (by simp) _
  rw [show (w.alloc (.cells #[.slice a n cap, .slice a2 n2 cap2] 25)).heap.size = p + 1 by rw [hp]; simp, ← hW] at I1
  rw [← hp] at I0
  have q0 := I0.c0
  have q1 := I0.c1
  have r0 := I1.c0
  have r1 := I1.c1
  have HI0 : Aside (InBox W p a n cap C a2 n2 cap2 H) := I0
  have HI1 : Aside (InBox W (p + 1) a' n cap' C a2' n2 cap2' H) := I1
  have HW : Hid (W = (w.alloc (.cells #[.slice a n cap, .slice a2 n2 cap2] 25)).alloc (.cells #[.slice a' n cap', .slice a2' n2 cap2'] 25)) := hW
  have HP : Aside (p = w.heap.size) := hp
  clear hW hp I0 I1 hC hH hC' hH' hb0
  go_enter Tryz.func12, Tryz.ntmps12
  go_wp2_with fail
  rw [← HW.out, ← HP.out]
  go_wp2
  go_loopg [5] n (fun g i wr => ∃ k : Nat, k + g = n ∧ i = .int .i64 k ∧ Below W.heap.size W wr)
  case atStart => exact ⟨0, by omega, rfl, Below.refl _ _⟩
  case round =>
    obtain ⟨k, hk, rfl, hbel⟩ := hrel
    have J0 := HI0.out.below hbel
    have J1 := HI1.out.below hbel
    have f0 := J0.c0
    have f1 := J1.c0
    by_cases hlt : k < n
    · obtain ⟨b, off, rfl, a1, n1, c1, a3, n3, c3, t0, t1, s0, s1, m0, m1⟩ := J0.cm.at hlt
      obtain ⟨b', off', rfl, a1', n1', c1', a3', n3', c3', t0', t1', s0', s1', m0', m1'⟩ := J1.cm.at hlt
      obtain rfl : n1 = n1' := by rw [← s0.1, ← s0'.1]
      obtain rfl : n3 = n3' := by rw [← s1.1, ← s1'.1]
      have HS1 : Hid (∀ m, Calls Tryz.prog 18 #[.slice a1 n1 c1, .slice a1' n1 c1'] (wr.drewN m) fun e w' => e = .returned (.bool true) ∧ ∃ m', w' = (wr.drewN m).drewN m') := fun m => same_yes a1 a1' n1 c1 c1' _ (wr.drewN m) (s0.below (drewN_below wr m) (Nat.le_refl _)) (s0'.below (drewN_below wr m) (Nat.le_refl _)) m0
      have HS2 : Hid (∀ m, Calls Tryz.prog 31 #[.slice a3 n3 c3, .slice a3' n3 c3'] (wr.drewN m) fun e w' => e = .returned (.bool true) ∧ ∃ m', w' = (wr.drewN m).drewN m') := fun m => isame_yes a3 a3' n3 c3 c3' _ (wr.drewN m) (s1.below (drewN_below wr m) (Nat.le_refl _)) (s1'.below (drewN_below wr m) (Nat.le_refl _)) m1
      have hki : (k : Int) < (n : Int) := by omega
      clear s0 s1 s0' s1' J0 J1 q0 q1 r0 r1
      go_wp2_with fail
      go_quiet ((first | (go_at_call 18; exact Calls.quiet_of (HS1.out _)) | (go_at_call 31; exact Calls.quiet_of (HS2.out _))))
      go_wp2
      go_roundg (gk - 1)
      case measure => omega
      case rel => exact ⟨k + 1, by omega, by go_num, below_drewN hbel _⟩
    · have hkk : decide ((k : Int) < (n : Int)) = false := by simp; omega
      obtain ⟨V, hV⟩ : ∃ V, V = wr := ⟨_, rfl⟩
      rw [← hV] at J0 J1 f0 f1 hbel ⊢
      have g0 := J0.c1
      have g1 := J1.c1
      have HJ0 : Aside (InBox V p a n cap C a2 n2 cap2 H) := J0
      have HJ1 : Aside (InBox V (p + 1) a' n cap' C a2' n2 cap2' H) := J1
      have hbw : Below w.heap.size w V := hb.trans (hbel.mono hb.size)
      clear hV J0 J1 q0 q1 r0 r1
      go_wp2
      go_loopg [6] n2 (fun g i wr => ∃ k : Nat, k + g = n2 ∧ i = .int .i64 k ∧ Below V.heap.size V wr)
      case atStart => exact ⟨0, by omega, rfl, Below.refl _ _⟩
      case round =>
        obtain ⟨k, hk, rfl, hbel⟩ := hrel
        have J0 := HJ0.out.below hbel
        have J1 := HJ1.out.below hbel
        have h0 := J0.c1
        have h1 := J1.c1
        by_cases hlt : k < n2
        · obtain ⟨b, off, rfl, t0, t1⟩ := J0.hs.at hlt
          obtain ⟨b', off', rfl, t0', t1'⟩ := J1.hs.at hlt
          obtain ⟨x, hx⟩ : ∃ x, x = H.getD k M.hd0 := ⟨_, rfl⟩
          rw [← hx] at t0 t1 t0' t1'
          have hki : (k : Int) < (n2 : Int) := by omega
          clear hx J0 J1 g0 g1 f0 f1
          go_wp2_with fail
          go_quiet (fail)
          go_wp2
          go_roundg (gk - 1)
          case measure => omega
          case rel => exact ⟨k + 1, by omega, by go_num, below_drewN hbel _⟩
        · have hkk : decide ((k : Int) < (n2 : Int)) = false := by simp; omega
          go_wp2
          go_ret
          exact ⟨rfl, hbw.trans (hbel.mono hbw.size)⟩
end Go.Proofs.YtcgpgflnihjpiafGreat
