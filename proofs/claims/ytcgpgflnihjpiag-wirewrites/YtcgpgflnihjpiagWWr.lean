/- wire.Write. -/
import Derived.Test.YtcgpgflnihjpiagPutC
import Derived.Test.YtcgpgflnihjpiagRepo1
import Derived.Test.YtcgpgflnihjpiagByt2
namespace Go.Proofs.Ytcgpgflnihjpiag
open Go.RowKit

theorem M.str_back (t : ByteArray) : M.str t.data.toList = t := by
  apply ByteArray.ext
  simp [M.str]
theorem M.pCo_len {c : M.Com} (h : M.okCo c) : (M.pCo c).length ≤ 1022 := by
  obtain ⟨⟨h1, _⟩, h2, _⟩ := h
  unfold M.pCo M.pL
  rw [List.length_append, List.length_cons, List.length_cons, M.pRs_len]
  have h3 : ∀ l : List Int, (l.flatMap fun p => [M.b1 p]).length = l.length := by
    intro l
    induction l with
    | nil => rfl
    | cons a t ih => rw [List.flatMap_cons, List.length_append, ih]; simp; omega
  have := h3 c.2
  omega
theorem M.pCs_len {C : List M.Com} (h : ∀ c ∈ C, M.okCo c) (k : Nat) : ((C.take k).flatMap M.pCo).length ≤ 1022 * C.length := by
  induction C generalizing k with
  | nil => simp
  | cons c t ih =>
    cases k with
    | zero => simp
    | succ k =>
      rw [List.take_succ_cons, List.flatMap_cons, List.length_append, List.length_cons]
      have h1 := M.pCo_len (h c (by simp))
      have h2 := ih (fun d hd => h d (by simp [hd])) k
      omega
theorem M.pHs_len {H : List (M.By × Int)} (h : ∀ c ∈ H, M.okHd c) (k : Nat) : ((H.take k).flatMap M.pHd).length ≤ 257 * H.length := by
  induction H generalizing k with
  | nil => simp
  | cons c t ih =>
    cases k with
    | zero => simp
    | succ k =>
      rw [List.take_succ_cons, List.flatMap_cons, List.length_append, List.length_cons]
      have h1 : (M.pHd c).length ≤ 257 := by
        have := (h c (by simp)).1
        unfold M.pHd M.pT
        rw [List.length_append, List.length_cons]
        simp
        omega
      have h2 := ih (fun d hd => h d (by simp [hd])) k
      omega
theorem M.bytesR_len {C : List M.Com} {H : List M.Hd} (h : M.rchk C H = 0) : (M.bytesR C H).length ≤ 100000 := by
  have hok := M.right_ok h
  obtain ⟨a1, a2, _⟩ := M.rchk_zero h
  have hc := (M.dchk_zero a1).1
  have h1 := M.pCs_len hok.1.2 C.length
  have h2 := M.pHs_len hok.2.2 (H.map M.hdB).length
  rw [List.take_of_length_le (Nat.le_refl _)] at h1 h2
  unfold M.bytesR M.pRe M.pL
  rw [List.length_append, List.length_cons, List.length_cons]
  simp only [List.length_map] at h1 h2 ⊢
  omega

set_option maxRecDepth 100000 in
set_option maxHeartbeats 8000000 in
theorem wwrite_any (a : Option Addr) (n cap : Nat) (C : List M.Com) (a2 : Option Addr) (n2 cap2 : Nat) (H : List M.Hd) (w : World) (hC : Cm w a n C) (hn : n ≤ 9223372036854775807) (hH : Hs w a2 n2 H) (hn2 : n2 ≤ 9223372036854775807) :
    Calls Try.prog 5 #[.agg #[.slice a n cap, .slice a2 n2 cap2]] w fun e w' => e = .returned (.tuple #[.string (M.str (if M.rchk C H = 0 then M.bytesR C H else [])), .int .i64 (M.rchk C H)]) ∧ Below w.heap.size w w' := by
  obtain ⟨p, hp⟩ : ∃ p, p = w.heap.size := ⟨_, rfl⟩
  obtain ⟨W, hW⟩ : ∃ W, W = w.alloc (.cells #[.slice a n cap, .slice a2 n2 cap2] 25) := ⟨_, rfl⟩
  have hb : Below w.heap.size w W := by rw [hW]; exact (Below.refl _ _).alloc (Nat.le_refl _) _
  have hW0 : W.heap[p]? = some (.cells #[.slice a n cap, .slice a2 n2 cap2] 25 (0, 0)) := by rw [hW, hp]; exact heap_alloc_new _ _
  have HCm : Hid (Cm W a n C) := hC.below hb (Nat.le_refl _)
  have HHs : Hid (Hs W a2 n2 H) := hH.below hb (Nat.le_refl _)
  have HK0 : Hid (Calls Try.prog 12 #[.agg #[.slice a n cap, .slice a2 n2 cap2]] W fun e w' => e = .returned (.int .i64 (M.rchk C H)) ∧ Below W.heap.size W w') := rcheck_any a n cap C a2 n2 cap2 H W HCm.out hn HHs.out hn2
  have HNC : Aside (C.length = n) := hC.1
  have HNH : Aside (H.length = n2) := hH.1
  have HW0 : Hid (∀ V, Below W.heap.size W V → V.heap[p]? = some (.cells #[.slice a n cap, .slice a2 n2 cap2] 25 (0, 0))) := fun V hV => (hV.block p (Array.getElem?_eq_some_iff.1 hW0).1).trans hW0
  have HW : Hid (W = w.alloc (.cells #[.slice a n cap, .slice a2 n2 cap2] 25)) := hW
  have HP : Aside (p = w.heap.size) := hp
  obtain ⟨E, hE⟩ : ∃ E, E = M.rchk C H := ⟨_, rfl⟩
  obtain ⟨so, hso⟩ : ∃ so, so = M.str (if M.rchk C H = 0 then M.bytesR C H else []) := ⟨_, rfl⟩
  rw [← hso, ← hE]
  rw [← hE] at HK0 hso
  have HE : Hid (E = M.rchk C H) := hE
  have HSo : Hid (so = M.str (if E = 0 then M.bytesR C H else [])) := hso
  clear hW hp hW0 hC hH hE hso
  go_enter Try.func5, Try.ntmps5
  go_wp2_with fail
  rw [← HW.out, ← HP.out]
  refine HK0.out.mono ?_
  rintro e w1 ⟨rfl, b1⟩
  clear HK0
  have hbw1 : Below w.heap.size w w1 := hb.trans (b1.mono hb.size)
  by_cases hE0 : E = 0
  case neg =>
    have hEb : (E != 0) = true := by simp [hE0]
    have hs0 : so = ⟨#[]⟩ := by rw [HSo.out, if_neg hE0]; rfl
    subst hs0
    clear hE0
    go_wp2
    go_ret2
    exact ⟨rfl, hbw1⟩
  subst hE0
  have hright : M.rchk C H = 0 := HE.out.symm
  have hok := M.right_ok hright
  obtain ⟨a1', a2', _⟩ := M.rchk_zero hright
  have hc14 := (M.dchk_zero a1').1
  rw [HNC.out] at hc14
  rw [HNH.out] at a2'
  have HOk : Hid (M.okRe (C, H.map M.hdB)) := hok
  obtain ⟨p2, hp2⟩ : ∃ p2, p2 = w1.heap.size := ⟨_, rfl⟩
  obtain ⟨W2, hW2⟩ : ∃ W2, W2 = w1.alloc (.cells #[.slice none 0 0, .bool false] 41) := ⟨_, rfl⟩
  have hb2 : Below w1.heap.size w1 W2 := by rw [hW2]; exact (Below.refl _ _).alloc (Nat.le_refl _) _
  have hs2 : W2.heap.size = p2 + 1 := by rw [hW2, hp2]; simp
  have hP0 : PenAt W2 p2 p2 [] false := by
    refine ⟨.slice none 0 0, ?_, Nat.le_refl _, ⟨rfl, Or.inl ⟨rfl, rfl⟩⟩⟩
    rw [hW2, hp2]; exact heap_alloc_new _ _
  have HCm1 : Hid (Cm w1 a n C) := HCm.out.below b1 (Nat.le_refl _)
  have HHs1 : Hid (Hs w1 a2 n2 H) := HHs.out.below b1 (Nat.le_refl _)
  have HB1 : Hid (∀ V, Below p2 w1 V → V.heap[p]? = some (.cells #[.slice a n cap, .slice a2 n2 cap2] 25 (0, 0))) := fun V hV => by
    have h1 := HW0.out w1 b1
    exact (hV.block p (by rw [hp2]; exact (Array.getElem?_eq_some_iff.1 h1).1)).trans h1
  have hb2p : Below p2 w1 W2 := by rw [hp2]; exact hb2
  have HBw : Hid (∀ V, Below p2 w1 V → Below w.heap.size w V) := fun V hV => hbw1.trans (hV.mono (by rw [hp2]; exact hbw1.size))
  have K1 := gbyte_any p2 p2 [] (n : Int) W2 hP0 (by simp) (by omega) (by omega)
  rw [hs2, List.nil_append] at K1
  have HK1 : Hid (Calls Try.prog 13 #[.pointer (some ⟨p2, 0, none⟩), .slice (some ⟨p2 + 1, 0, none⟩) 1 1] (W2.alloc (.cells #[.int .i64 (n : Int)] 3)) fun e w' => (∃ v, e = .returned v) ∧ PenAt w' p2 p2 [M.b1 (n : Int)] false ∧ Below p2 W2 w' ∧ Kp W2 w') := K1
  have HW2 : Hid (W2 = w1.alloc (.cells #[.slice none 0 0, .bool false] 41)) := hW2
  have HP2 : Aside (p2 = w1.heap.size) := hp2
  have blk := HB1.out W2 hb2p
  have j0 : W2.cell? ⟨p, 0, none⟩ = some (.slice a n cap) := by rw [cell_of_row _ _ _ _ _ _ blk]; rfl
  rw [hW2] at j0
  clear hW2 hp2 hb2 hs2 hP0 K1 hok a1' hright blk b1 hb hbw1
  go_wp2_with fail
  rw [← HW2.out, ← HP2.out]
  refine HK1.out.mono ?_
  rintro e w3 ⟨⟨v3, rfl⟩, q3, b3, _⟩
  have c3 := hb2p.trans b3
  have HQ3 : Aside (PenAt w3 p2 p2 ([M.b1 (n : Int)] ++ (C.take 0).flatMap M.pCo) false) := by unfold Aside; simpa using q3
  have blk := HB1.out w3 c3
  clear j0
  have j0 : w3.cell? ⟨p, 0, none⟩ = some (.slice a n cap) := by rw [cell_of_row _ _ _ _ _ _ blk]; rfl
  clear blk q3 b3 HK1
  go_wp2_with fail
  go_loopg [26] n (fun g i wr => ∃ k : Nat, k + g = n ∧ i = .int .i64 k ∧ Aside (PenAt wr p2 p2 ([M.b1 (n : Int)] ++ (C.take k).flatMap M.pCo) false) ∧ Below p2 w1 wr)
  case atStart => exact ⟨0, by omega, rfl, HQ3, c3⟩
  case round =>
    obtain ⟨k, hk, rfl, HPk, hbel⟩ := hrel
    clear j0
    by_cases hkm : k < n
    · have hki : (k : Int) < (n : Int) := by omega
      have hkn : k < C.length := by rw [HNC.out]; exact hkm
      obtain ⟨cb, co, rfl, x1, m1, y1, x2, m2, y2, z1, z2, zr, zi, _⟩ := HCm1.out.at hkm
      obtain ⟨_, h0 | ⟨cb', co', ecb, hcb, _⟩⟩ := HCm1.out
      · omega
      cases ecb
      have g1 : wr.cell? ⟨cb, co + k * 2, none⟩ = some (.slice x1 m1 y1) := (hbel.cell (p := ⟨cb, co + k * 2, none⟩) (by show cb < p2; rw [HP2.out]; exact hcb)).trans z1
      have g2 : wr.cell? ⟨cb, co + k * 2 + 1, none⟩ = some (.slice x2 m2 y2) := (hbel.cell (p := ⟨cb, co + k * 2 + 1, none⟩) (by show cb < p2; rw [HP2.out]; exact hcb)).trans z2
      have hcok := HOk.out.1.2 _ (getD_mem (d := ([], [])) hkn)
      have hst := M.fm_take M.pCo ([], []) C k hkn
      obtain ⟨c, hcc⟩ : ∃ c, c = C.getD k ([], []) := ⟨_, rfl⟩
      rw [← hcc] at zr zi hcok hst
      obtain ⟨lk, hlk⟩ : ∃ lk, lk = [M.b1 (n : Int)] ++ (C.take k).flatMap M.pCo := ⟨_, rfl⟩
      have hlk5 : lk.length ≤ 100000 := by
        have := M.pCs_len HOk.out.1.2 k
        simp only at this
        rw [HNC.out] at this
        rw [hlk, List.length_append]
        simp only [List.length_singleton]
        omega
      rw [← hlk] at HPk
      obtain ⟨W5, hW5⟩ : ∃ W5, W5 = wr.alloc (.cells #[.slice x1 m1 y1, .slice x2 m2 y2] 46) := ⟨_, rfl⟩
      have hb5 : Below wr.heap.size wr W5 := by rw [hW5]; exact (Below.refl _ _).alloc (Nat.le_refl _) _
      have hbel5 : Below p2 w1 W5 := hbel.trans (hb5.mono HPk.out.base)
      have hle : w1.heap.size ≤ p2 := by rw [HP2.out]; exact Nat.le_refl _
      have HK5 : Hid (Calls Try.prog 14 #[.pointer (some ⟨p2, 0, none⟩), .agg #[.slice x1 m1 y1, .slice x2 m2 y2]] W5 fun e w' => (∃ v, e = .returned v) ∧ PenAt w' p2 p2 (lk ++ M.pCo c) false ∧ Below p2 W5 w' ∧ Kp W5 w') :=
        putc_any p2 p2 lk x1 m1 y1 x2 m2 y2 c W5 (HPk.out.later hb5) (fun V hV => zr.below (hbel5.trans hV) hle) (fun V hV => zi.below (hbel5.trans hV) hle) hcok (by omega)
      have HSt : Hid (lk ++ M.pCo c = [M.b1 (n : Int)] ++ (C.take (k + 1)).flatMap M.pCo) := by unfold Hid; rw [hst, hlk, List.append_assoc]
      have HW5 : Hid (W5 = wr.alloc (.cells #[.slice x1 m1 y1, .slice x2 m2 y2] 46)) := hW5
      clear hst hcc hcok zr zi z1 z2 hb5 hW5 hlk hlk5 hle
      go_wp2_with fail
      rw [← HW5.out]
      refine HK5.out.mono ?_
      rintro e w6 ⟨⟨v6, rfl⟩, q6, b6, _⟩
      rw [HSt.out] at q6
      have HQ6 : Aside (PenAt w6 p2 p2 ([M.b1 (n : Int)] ++ (C.take (k + 1)).flatMap M.pCo) false) := q6
      have c6 := hbel5.trans b6
      clear q6 b6 g1 g2 HK5
      go_wp2
      go_roundg (gk - 1)
      case measure => omega
      case rel => exact ⟨k + 1, by omega, by go_num, HQ6, c6⟩
    · obtain rfl : k = n := by omega
      have hkk2 : decide ((k : Int) < (k : Int)) = false := by simp
      have e1 : C.take k = C := List.take_of_length_le (by rw [HNC.out]; exact Nat.le_refl _)
      rw [e1] at HPk
      obtain ⟨lc, hlc⟩ : ∃ lc, lc = [M.b1 (k : Int)] ++ C.flatMap M.pCo := ⟨_, rfl⟩
      have hlc5 : lc.length ≤ 100000 := by
        have := M.pCs_len HOk.out.1.2 k
        simp only at this
        rw [HNC.out] at this
        rw [e1] at this
        rw [hlc, List.length_append]
        simp only [List.length_singleton]
        omega
      rw [← hlc] at HPk
      have HLc : Hid (lc = [M.b1 (k : Int)] ++ C.flatMap M.pCo) := hlc
      have blk := HB1.out wr hbel
      have j1 : wr.cell? ⟨p, 1, none⟩ = some (.slice a2 n2 cap2) := by rw [cell_of_row _ _ _ _ _ _ blk]; rfl
      have HK8 : Hid (Calls Try.prog 13 #[.pointer (some ⟨p2, 0, none⟩), .slice (some ⟨wr.heap.size, 0, none⟩) 1 1] (wr.alloc (.cells #[.int .i64 (n2 : Int)] 3)) fun e w' => (∃ v, e = .returned v) ∧ PenAt w' p2 p2 (lc ++ [M.b1 (n2 : Int)]) false ∧ Below p2 wr w' ∧ Kp wr w') := gbyte_any p2 p2 lc (n2 : Int) wr HPk.out (by omega) (by omega) (by omega)
      clear blk e1 hlc
      go_wp2_with fail
      refine HK8.out.mono ?_
      rintro e w8 ⟨⟨v8, rfl⟩, q8, b8, _⟩
      obtain ⟨ld, hld⟩ : ∃ ld, ld = lc ++ [M.b1 (n2 : Int)] := ⟨_, rfl⟩
      rw [← hld] at q8
      have hld5 : ld.length ≤ 100001 := by rw [hld, List.length_append]; simp; omega
      have HLd : Hid (ld = lc ++ [M.b1 (n2 : Int)]) := hld
      have HQ8 : Aside (PenAt w8 p2 p2 (ld ++ ((H.map M.hdB).take 0).flatMap M.pHd) false) := by unfold Aside; simpa using q8
      have c8 := hbel.trans b8
      have blk := HB1.out w8 c8
      have j2 : w8.cell? ⟨p, 1, none⟩ = some (.slice a2 n2 cap2) := by rw [cell_of_row _ _ _ _ _ _ blk]; rfl
      clear blk q8 b8 j1 HK8 hld
      go_wp2_with fail
      go_loopg [43] n2 (fun g i wx => ∃ j : Nat, j + g = n2 ∧ i = .int .i64 j ∧ Aside (PenAt wx p2 p2 (ld ++ ((H.map M.hdB).take j).flatMap M.pHd) false) ∧ Below p2 w1 wx)
      case atStart => exact ⟨0, by omega, rfl, HQ8, c8⟩
      case round =>
        obtain ⟨j, hj, rfl, HPj, hbej⟩ := hrel
        clear j2
        by_cases hjm : j < n2
        · have hji : (j : Int) < (n2 : Int) := by omega
          have hjn : j < H.length := by rw [HNH.out]; exact hjm
          obtain ⟨hb', ho', rfl, z1, z2⟩ := HHs1.out.at hjm
          obtain ⟨_, h0 | ⟨cb', co', ecb, hcb, _⟩⟩ := HHs1.out
          · omega
          cases ecb
          have g1 := (hbej.cell (p := ⟨hb', ho' + j * 2, none⟩) (by show hb' < p2; rw [HP2.out]; exact hcb)).trans z1
          have g2 := (hbej.cell (p := ⟨hb', ho' + j * 2 + 1, none⟩) (by show hb' < p2; rw [HP2.out]; exact hcb)).trans z2
          have hjb : j < (H.map M.hdB).length := by rw [List.length_map]; exact hjn
          have hhok := HOk.out.2.2 _ (getD_mem (d := M.hdB M.hd0) hjb)
          have hst := M.fm_take M.pHd (M.hdB M.hd0) (H.map M.hdB) j hjb
          have hmap : (H.map M.hdB).getD j (M.hdB M.hd0) = M.hdB (H.getD j M.hd0) := by simp [List.getD, hjn]
          rw [hmap] at hhok hst
          obtain ⟨y, hyy⟩ : ∃ y, y = H.getD j M.hd0 := ⟨_, rfl⟩
          rw [← hyy] at g1 g2 hhok hst
          obtain ⟨nm, at'⟩ := y
          simp only at g1 g2
          obtain ⟨hnm, hat0, hat1⟩ := hhok
          have hnm : nm.data.toList.length < 256 := hnm
          have hat0 : 0 ≤ at' := hat0
          have hat1 : at' < 256 := hat1
          obtain ⟨lk, hlk⟩ : ∃ lk, lk = ld ++ ((H.map M.hdB).take j).flatMap M.pHd := ⟨_, rfl⟩
          have hlk5 : lk.length ≤ 200000 := by
            have := M.pHs_len HOk.out.2.2 j
            simp only [List.length_map] at this
            rw [HNH.out] at this
            rw [hlk, List.length_append]
            omega
          rw [← hlk] at HPj
          obtain ⟨W5, hW5⟩ : ∃ W5, W5 = wr.alloc (.cells #[.string nm, .int .i64 at'] 49) := ⟨_, rfl⟩
          have hb5 : Below wr.heap.size wr W5 := by rw [hW5]; exact (Below.refl _ _).alloc (Nat.le_refl _) _
          have hbel5 : Below p2 w1 W5 := hbej.trans (hb5.mono HPj.out.base)
          have h50 : W5.heap[wr.heap.size]? = some (.cells #[.string nm, .int .i64 at'] 49 (0, 0)) := by rw [hW5]; exact heap_alloc_new _ _
          have HC5 : Hid (∀ V, Kp W5 V → V.heap[wr.heap.size]? = some (.cells #[.string nm, .int .i64 at'] 49 (0, 0))) := fun V hV => hV _ _ _ (by decide) (by decide) h50
          have K5 := gtext_any p2 p2 lk nm.data.toList W5 (HPj.out.later hb5) hnm (by omega)
          rw [M.str_back] at K5
          obtain ⟨le, hle⟩ : ∃ le, le = lk ++ M.pT nm.data.toList := ⟨_, rfl⟩
          rw [← hle] at K5
          have hle5 : le.length ≤ 300000 := by rw [hle, List.length_append]; unfold M.pT; rw [List.length_cons]; omega
          have HK5 : Hid (Calls Try.prog 15 #[.pointer (some ⟨p2, 0, none⟩), .string nm] W5 fun e w' => (∃ v, e = .returned v) ∧ PenAt w' p2 p2 le false ∧ Below p2 W5 w' ∧ Kp W5 w') := K5
          have HK6 : Hid (∀ V, PenAt V p2 p2 le false → Calls Try.prog 13 #[.pointer (some ⟨p2, 0, none⟩), .slice (some ⟨V.heap.size, 0, none⟩) 1 1] (V.alloc (.cells #[.int .i64 at'] 3)) fun e w' => (∃ v, e = .returned v) ∧ PenAt w' p2 p2 (le ++ [M.b1 at']) false ∧ Below p2 V w' ∧ Kp V w') := fun V hV =>
            gbyte_any p2 p2 le at' V hV (by omega) hat0 hat1
          have HSt : Hid (le ++ [M.b1 at'] = ld ++ ((H.map M.hdB).take (j + 1)).flatMap M.pHd) := by
            unfold Hid
            rw [hst, hle, hlk, List.append_assoc, List.append_assoc]
            rfl
          have HW5 : Hid (W5 = wr.alloc (.cells #[.string nm, .int .i64 at'] 49)) := hW5
          clear hst hyy hmap hnm hat0 hat1 z1 z2 K5 h50 hb5 hW5 hlk hlk5 hle hle5
          go_wp2_with fail
          rw [← HW5.out]
          refine HK5.out.mono ?_
          rintro e w6 ⟨⟨v6, rfl⟩, q6, b6, k6⟩
          have blk := HC5.out w6 k6
          have d1 : w6.cell? ⟨wr.heap.size, 1, none⟩ = some (.int .i64 at') := by rw [cell_of_row _ _ _ _ _ _ blk]; rfl
          have HQ6 : Hid (PenAt w6 p2 p2 le false) := q6
          have c6 := hbel5.trans b6
          clear blk q6 b6 k6 g1 g2
          go_wp2_with fail
          refine (HK6.out w6 HQ6.out).mono ?_
          rintro e w7 ⟨⟨v7, rfl⟩, q7, b7, _⟩
          rw [HSt.out] at q7
          have HQ7 : Aside (PenAt w7 p2 p2 (ld ++ ((H.map M.hdB).take (j + 1)).flatMap M.pHd) false) := q7
          have c7 := c6.trans b7
          clear q7 b7 d1 HK5 HK6
          go_wp2
          go_roundg (gk - 1)
          case measure => omega
          case rel => exact ⟨j + 1, by omega, by go_num, HQ7, c7⟩
        · obtain rfl : j = n2 := by omega
          have hkk3 : decide ((j : Int) < (j : Int)) = false := by simp
          have e1 : (H.map M.hdB).take j = H.map M.hdB := List.take_of_length_le (by rw [List.length_map, HNH.out]; exact Nat.le_refl _)
          have K8 := written_any p2 p2 _ _ wr HPj.out
          have hfin : M.str (if (false : Bool) = true then [] else ld ++ ((H.map M.hdB).take j).flatMap M.pHd) = so := by
            rw [if_neg (by simp), HSo.out, if_pos trivial, e1, HLd.out, HLc.out]
            unfold M.bytesR M.pRe M.pL
            rw [List.length_map, HNC.out, HNH.out]
            simp
          rw [hfin] at K8
          have HK8 : Hid (Calls Try.prog 16 #[.pointer (some ⟨p2, 0, none⟩)] wr fun e w' => e = .returned (.tuple #[.string so, .int .i64 0]) ∧ Below wr.heap.size wr w') := K8
          have hpb : p2 ≤ wr.heap.size := HPj.out.base
          clear e1 K8 hfin
          go_wp2_with fail
          refine HK8.out.mono ?_
          rintro e w9 ⟨rfl, b9⟩
          have c9 := HBw.out _ (hbej.trans (b9.mono hpb))
          clear b9
          go_wp2
          go_ret2
          exact ⟨rfl, c9⟩
end Go.Proofs.Ytcgpgflnihjpiag
