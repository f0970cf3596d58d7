/- For all commits and every three numbers, the law DagTrue returns true and leaves its arguments as they were: who is above one that is above is above, nobody is above one ahead of him, whoever is above both is above one of the Bases, and no Base is above another, of what Above and Bases of the landed dag package answer. No condition. -/
import Derived.Test.YtcgpgflnihjpiaeDBegun
import Derived.Test.YtcgpgflnihjpiaeChoose
import Derived.Test.YtcgpgflnihjpiaeOpenC
namespace Go.Proofs.Ytcgpgflnihjpiae
namespace M
theorem sel_pair (p : Nat → Bool) (n : Nat) : (sel p n).Pairwise (· < ·) := by
  induction n with
  | zero => simp [sel]
  | succ n ih =>
    rw [sel]
    split
    · rw [List.pairwise_append]
      refine ⟨ih, by simp, fun x hx y hy => ?_⟩
      obtain ⟨k, hk, _, rfl⟩ := (mem_sel p n x).1 hx
      have : y = (n : Int) := by simpa using hy
      omega
    · exact ih
theorem sel_apart (p : Nat → Bool) (n : Nat) (i j : Nat) (hi : i < (sel p n).length) (hj : j < (sel p n).length) (hne : i ≠ j) : (sel p n).getD i 0 ≠ (sel p n).getD j 0 := by
  have h := List.pairwise_iff_getElem.1 (sel_pair p n)
  simp only [List.getD, List.getElem?_eq_getElem hi, List.getElem?_eq_getElem hj, Option.getD_some]
  rcases Nat.lt_or_gt_of_ne hne with e | e
  · have := h i j hi hj e; omega
  · have := h j i hj hi e; omega
theorem sel_at (p : Nat → Bool) (n i : Nat) (hi : i < (sel p n).length) : ∃ b : Nat, (sel p n).getD i 0 = (b : Int) ∧ b < n ∧ p b = true := by
  have hm : (sel p n).getD i 0 ∈ sel p n := by simp [List.getD, hi]
  obtain ⟨k, h1, h2, h3⟩ := (mem_sel p n _).1 hm
  exact ⟨k, h3, h1, h2⟩
/-- No base is above another. -/
theorem base_apart {L : List Com} (R : Right L) {a b : Nat} (ha : a < L.length) (hb : b < L.length) (s t : Nat) (hs : s < L.length) (h1 : isBase L a b s = true) (h2 : isBase L a b t = true) (hne : s ≠ t) : (above L s).getD t false = false := by
  by_cases h : (above L s).getD t false = true
  · have hle := ((above_iff R hs t).1 h).le R
    have hb1 := ((isBase_iff R ha hb s).1 h1).1
    rw [((isBase_iff R ha hb t).1 h2).2 s (by omega) hs hb1] at h
    simp at h
  · simpa using h
theorem under_any {L : List Com} (R : Right L) {a b : Nat} (ha : a < L.length) (hb : b < L.length) (k : Nat) : (bases L a b).any (fun x => (above L x.toNat).getD k false) = both L a b k := by
  rw [Bool.eq_iff_iff, List.any_eq_true]
  constructor
  · rintro ⟨x, hx, hk⟩
    obtain ⟨s, hs, hB, rfl⟩ := (mem_sel _ _ _).1 hx
    rw [Int.toNat_natCast] at hk
    have h1 := (above_iff R hs k).1 hk
    have h2 := (both_iff R ha hb s).1 ((isBase_iff R ha hb s).1 hB).1
    exact (both_iff R ha hb k).2 ⟨h2.1.trans h1, h2.2.trans h1⟩
  · intro h
    obtain ⟨i, h1, h2, h3⟩ := under_base R ha hb k h
    exact ⟨(i : Int), (mem_sel _ _ _).2 ⟨i, h1, h2, rfl⟩, by rw [Int.toNat_natCast]; exact h3⟩
theorem any_take (l : List Int) (f : Int → Bool) (k : Nat) (h : k < l.length) : (l.take (k + 1)).any f = ((l.take k).any f || f (l.getD k 0)) := by
  rw [List.take_succ_eq_append_getElem h, List.any_append]
  simp [List.getD, h]
end M
open Go.ChangeShapes Go.WideShapes Go.ChangeAt Go.RowKit

theorem dabove_in (a : Option Addr) (n cap : Nat) (L : List M.Com) (c : Nat) (w : World) (h : Cm w a n L) (hz : M.dchk L = 0) (hc : c < n) :
    Calls Try.prog 13 #[.slice a n cap, .int .i64 (c : Int)] w fun e w' => ∃ g, e = .returned (.tuple #[.slice (some ⟨g, 0, none⟩) n n, .int .i64 0]) ∧ w.heap.size ≤ g ∧ Bo w' g (M.above L c) ∧ Below w.heap.size w w' := by
  refine (dabove_good a n cap L c w h hz).mono ?_
  rintro e w' ⟨hb, h2⟩
  rcases h2 with ⟨⟨x, hx, hr⟩, _⟩ | ⟨_, g, hg, he, hbo⟩
  · simp at hx; omega
  · refine ⟨g, he, hg, ?_, hb⟩
    rw [M.range_above L n c h.1 _ (fun i _ => M.all_one L c i)] at hbo
    exact hbo
theorem dbases_in (a : Option Addr) (n cap : Nat) (L : List M.Com) (x y : Nat) (w : World) (h : Cm w a n L) (hz : M.dchk L = 0) (hx : x < n) (hy : y < n) :
    Calls Try.prog 6 #[.slice a n cap, .int .i64 (x : Int), .int .i64 (y : Int)] w fun e w' => ∃ av cv, e = .returned (.tuple #[.slice av (M.bases L x y).length cv, .int .i64 0]) ∧ Ri w' av (M.bases L x y).length (M.bases L x y) ∧ Below w.heap.size w w' := by
  refine (dbases_good a n cap L x y w h hz).mono ?_
  rintro e w' ⟨hb, h2⟩
  rcases h2 with ⟨hr, _⟩ | ⟨_, v, rfl, ho⟩
  · omega
  · rw [Int.toNat_natCast, Int.toNat_natCast] at ho
    obtain ⟨av, cv, rfl, hri, _⟩ := ho.ri
    exact ⟨av, cv, rfl, hri, hb⟩

set_option maxRecDepth 100000 in
set_option maxHeartbeats 16000000 in
theorem dagTrue_walk (a : Option Addr) (n cap : Nat) (L : List M.Com) (x y z : Int) (w : World) (h : Cm w a n L) (hm : n ≤ 9223372036854775807)
    (x0 : -9223372036854775808 ≤ x) (x1 : x ≤ 9223372036854775807) (y0 : -9223372036854775808 ≤ y) (y1 : y ≤ 9223372036854775807) (z0 : -9223372036854775808 ≤ z) (z1 : z ≤ 9223372036854775807) :
    Calls Try.prog 4 #[.slice a n cap, .int .i64 x, .int .i64 y, .int .i64 z] w fun e w' => e = .returned (.bool true) ∧ Below w.heap.size w w' := by
  have HCm : Hid (Cm w a n L) := h
  have hl := h.1
  have HD := dcheck_any a n cap L w h hm
  by_cases hz : M.dchk L = 0
  · rw [hz] at HD
    have HDD : Hid (Calls Try.prog 11 #[.slice a n cap] w fun e w' => e = .returned (.int .i64 0) ∧ Below w.heap.size w w') := HD
    have hR := M.dchk_zero hz
    have hn14 : n ≤ 14 := by rw [← hl]; exact hR.1
    have HZ : Hid (M.dchk L = 0) := hz
    have HL : Hid (L.length = n) := hl
    have HRt : Hid (M.Right L) := hR.2
    have HX0 : Hid (-9223372036854775808 ≤ x ∧ x ≤ 9223372036854775807) := ⟨x0, x1⟩
    have HY0 : Hid (-9223372036854775808 ≤ y ∧ y ≤ 9223372036854775807) := ⟨y0, y1⟩
    have HZ0 : Hid (-9223372036854775808 ≤ z ∧ z ≤ 9223372036854775807) := ⟨z0, z1⟩
    clear HD h hz hl hR x0 x1 y0 y1 z0 z1
    by_cases hn0 : n = 0
    · subst hn0
      go_enter Try.func4, Try.ntmps4
      go_wp2_with fail
      refine HDD.out.mono ?_
      rintro e w1 ⟨rfl, hb1⟩
      go_wp2_with fail
      refine (dbegun_any w1).mono ?_
      rintro e w3 ⟨rfl, hb3⟩
      have c3 := dbelow2 hb1 hb3
      clear hb1 hb3
      go_wp2
      go_ret
      exact ⟨rfl, c3⟩
    · have hnb : ((n : Int) == 0) = false := by simp; omega
      have hnp : 0 < n := by omega
      clear hn0
      go_enter Try.func4, Try.ntmps4
      go_wp2_with fail
      refine HDD.out.mono ?_
      rintro e w1 ⟨rfl, hb1⟩
      clear HDD
      go_wp2_with fail
      refine (choose_any x n _ HX0.out.1 HX0.out.2 hnp (by omega)).mono ?_
      rintro e w1' ⟨i, rfl, hi, hw⟩
      subst hw
      go_wp2_with fail
      refine (choose_any y n _ HY0.out.1 HY0.out.2 hnp (by omega)).mono ?_
      rintro e w1 ⟨j, rfl, hj, hw⟩
      subst hw
      go_wp2_with fail
      refine (choose_any z n _ HZ0.out.1 HZ0.out.2 hnp (by omega)).mono ?_
      rintro e w1' ⟨k, rfl, hk, hw⟩
      subst hw
      clear HX0 HY0 HZ0
      go_wp2_with fail
      refine (dabove_in a n cap L i _ (HCm.out.below hb1 (Nat.le_refl _)) HZ.out hi).mono ?_
      rintro e w2 ⟨X, rfl, hX, BX, hb2⟩
      have c2 := dbelow2 hb1 hb2
      have HX2 : Hid (Bo w2 X (M.above L i)) := BX
      clear hb1 hb2 BX
      go_wp2_with fail
      refine (dabove_in a n cap L j _ (HCm.out.below c2 (Nat.le_refl _)) HZ.out hj).mono ?_
      rintro e w3 ⟨Y, rfl, hY, BY, hb3⟩
      have c3 := dbelow2 c2 hb3
      have HX3 : Hid (Bo w3 X (M.above L i)) := HX2.out.below hb3 HX2.out.lt
      have HY3 : Hid (Bo w3 Y (M.above L j)) := BY
      clear c2 hb3 BY HX2
      go_wp2_with fail
      refine (dabove_in a n cap L k _ (HCm.out.below c3 (Nat.le_refl _)) HZ.out hk).mono ?_
      rintro e w4 ⟨Z, rfl, hZ, BZ, hb4⟩
      have c4 := dbelow2 c3 hb4
      have HX4 : Hid (Bo w4 X (M.above L i)) := HX3.out.below hb4 HX3.out.lt
      have HY4 : Hid (Bo w4 Y (M.above L j)) := HY3.out.below hb4 HY3.out.lt
      have HZ4 : Hid (Bo w4 Z (M.above L k)) := BZ
      clear c3 hb4 BZ HX3 HY3
      go_wp2_with fail
      refine (dbases_in a n cap L i j _ (HCm.out.below c4 (Nat.le_refl _)) HZ.out hi hj).mono ?_
      rintro e w5 ⟨av, cv, rfl, hri, hb5⟩
      have c5 := dbelow2 c4 hb5
      have HX5 : Hid (Bo w5 X (M.above L i)) := HX4.out.below hb5 HX4.out.lt
      have HY5 : Hid (Bo w5 Y (M.above L j)) := HY4.out.below hb5 HY4.out.lt
      have HZ5 : Hid (Bo w5 Z (M.above L k)) := HZ4.out.below hb5 HZ4.out.lt
      obtain ⟨bs, hbs⟩ : ∃ bs, bs = M.bases L i j := ⟨_, rfl⟩
      rw [← hbs] at hri ⊢
      obtain ⟨ln, hln⟩ : ∃ ln, ln = bs.length := ⟨_, rfl⟩
      rw [← hln] at hri ⊢
      have hln14 : ln ≤ 14 := by
        have h1 := M.sel_len (M.isBase L i j) L.length
        have h2 := HL.out
        rw [hln, hbs]; unfold M.bases; omega
      have HR5 : Hid (Ri w5 av ln bs) := hri
      have HBS : Hid (bs = M.bases L i j) := hbs
      have HLN : Hid (ln = bs.length) := hln
      have eself : (M.above L i).getD i false = true := (M.above_iff HRt.out (by rw [HL.out]; exact hi) i).2 .self
      have cxi := HX5.out.cell (i := i) (by rw [M.above_len, HL.out]; exact hi)
      rw [eself] at cxi
      have HXl : Hid (∀ m, m < n → w5.cell? ⟨X, m, none⟩ = some (.bool ((M.above L i).getD m false))) := fun m hm => HX5.out.cell (by rw [M.above_len, HL.out]; exact hm)
      have HYl : Hid (∀ m, m < n → w5.cell? ⟨Y, m, none⟩ = some (.bool ((M.above L j).getD m false))) := fun m hm => HY5.out.cell (by rw [M.above_len, HL.out]; exact hm)
      have HZl : Hid (∀ m, m < n → w5.cell? ⟨Z, m, none⟩ = some (.bool ((M.above L k).getD m false))) := fun m hm => HZ5.out.cell (by rw [M.above_len, HL.out]; exact hm)
      have hXB := HX5.out.lt
      have hYB := HY5.out.lt
      have HAi := fun m => M.above_iff HRt.out (show i < L.length by rw [HL.out]; exact hi) m
      have HAk := fun m => M.above_iff HRt.out (show k < L.length by rw [HL.out]; exact hk) m
      have HTr : Hid (∀ m, (M.above L k).getD m false = true → m ≤ k ∧ ((M.above L i).getD k false = true → (M.above L i).getD m false = true)) := fun m h1 => ⟨((HAk m).1 h1).le HRt.out, fun h2 => (HAi m).2 (((HAi k).1 h2).trans ((HAk m).1 h1))⟩
      clear c4 hb5 hri hbs hln HX4 HY4 HZ4 eself HAi HAk hX hY hZ
      obtain ⟨tk, htk⟩ : ∃ t, (M.above L i).getD k false = t := ⟨_, rfl⟩
      have cxk := HXl.out k hk
      rw [htk] at cxk
      have HTk : Hid ((M.above L i).getD k false = tk) := htk
      obtain ⟨sk, hsk⟩ : ∃ t, (M.above L j).getD k false = t := ⟨_, rfl⟩
      have cyk := HYl.out k hk
      rw [hsk] at cyk
      have HSk : Hid ((M.above L j).getD k false = sk) := hsk
      clear htk hsk
      have hZB := HZ5.out.lt
      go_wp2
      go_loopg [20] n (fun g v wr => ∃ m : Nat, m + g = n ∧ v = .int .i64 m ∧ Below w5.heap.size w5 wr)
      case atStart => exact ⟨0, by omega, rfl, Below.refl _ _⟩
      case round =>
        obtain ⟨m, hmg, rfl, hbel⟩ := hrel
        by_cases hmn : m < n
        · have hmi : (m : Int) < (n : Int) := by omega
          have cz := (hbel.cell (p := ⟨Z, m, none⟩) hZB).trans (HZl.out m hmn)
          have cx := (hbel.cell (p := ⟨X, m, none⟩) hXB).trans (HXl.out m hmn)
          have cxk' := (hbel.cell (p := ⟨X, k, none⟩) hXB).trans cxk
          have htr := HTr.out m
          obtain ⟨tz, htz⟩ : ∃ t, (M.above L k).getD m false = t := ⟨_, rfl⟩
          rw [htz] at cz htr
          cases tz with
          | false =>
            clear htr htz
            go_wp2
            go_roundg (gk - 1)
            case measure => omega
            case rel => exact ⟨m + 1, by omega, by go_num, hbel⟩
          | true =>
            have h1 := (htr rfl).1
            have h2 := (htr rfl).2
            rw [HTk.out] at h2
            have hdm : decide ((k : Int) < (m : Int)) = false := by simp; omega
            clear htr htz
            cases tk with
            | false =>
              clear h2
              go_wp2
              go_roundg (gk - 1)
              case measure => omega
              case rel => exact ⟨m + 1, by omega, by go_num, hbel⟩
            | true =>
              rw [h2 rfl] at cx
              clear h2
              go_wp2
              go_roundg (gk - 1)
              case measure => omega
              case rel => exact ⟨m + 1, by omega, by go_num, hbel⟩
        · have hbel0 := hbel
          clear HZl HTr hbel
          go_wp2
          go_loopg [21, 22] ln (fun g vu v ws => ∃ m : Nat, m + g = ln ∧ v = .int .i64 m ∧ vu = .bool ((bs.take m).any (fun b => (M.above L b.toNat).getD k false)) ∧ Below w5.heap.size w5 ws)
          case atStart => exact ⟨0, by omega, rfl, rfl, hbel0⟩
          case round =>
            obtain ⟨m, hmg, rfl, rfl, hbel⟩ := hrel
            by_cases hml : m < ln
            · have hmi : (m : Int) < (ln : Int) := by omega
              obtain ⟨vb, vo, rfl, hvB, hvc⟩ : ∃ vb vo, av = some ⟨vb, vo, none⟩ ∧ vb < w5.heap.size ∧ ∀ i, i < ln → w5.cell? ⟨vb, vo + i, none⟩ = some (.int .i64 (bs.getD i 0)) := by
                rcases HR5.out.cases with ⟨h0, _⟩ | ⟨vb, vo, e, _, _, hvB, hvc⟩
                · omega
                · exact ⟨vb, vo, e, hvB, hvc⟩
              have hml2 : m < (M.sel (M.isBase L i j) L.length).length := by have h2 := HLN.out; rw [HBS.out] at h2; unfold M.bases at h2; omega
              obtain ⟨b, hb, hbn, hbB⟩ := M.sel_at (M.isBase L i j) L.length m hml2
              have ebs : bs = M.sel (M.isBase L i j) L.length := HBS.out
              have hget : bs.getD m 0 = (b : Int) := by rw [ebs]; exact hb
              have hiL : i < L.length := by rw [HL.out]; exact hi
              have hjL : j < L.length := by rw [HL.out]; exact hj
              have hbo := (M.both_iff HRt.out hiL hjL b).1 ((M.isBase_iff HRt.out hiL hjL b).1 hbB).1
              have hbn2 : b < n := by rw [← HL.out]; exact hbn
              have cb : wr.cell? ⟨vb, vo + m, none⟩ = some (.int .i64 (b : Int)) := by rw [hbel.cell (p := ⟨vb, vo + m, none⟩) hvB, hvc m hml, hget]
              have cxb : wr.cell? ⟨X, b, none⟩ = some (.bool true) := by rw [hbel.cell (p := ⟨X, b, none⟩) hXB, HXl.out b hbn2, (M.above_iff HRt.out hiL b).2 hbo.1]
              have cyb : wr.cell? ⟨Y, b, none⟩ = some (.bool true) := by rw [hbel.cell (p := ⟨Y, b, none⟩) hYB, HYl.out b hbn2, (M.above_iff HRt.out hjL b).2 hbo.2]
              have HNx : Hid ((bs.take (m + 1)).any (fun b => (M.above L b.toNat).getD k false) = ((bs.take m).any (fun b => (M.above L b.toNat).getD k false) || (M.above L b).getD k false)) := by
                unfold Hid
                rw [M.any_take bs _ m (by rw [← HLN.out]; exact hml), hget, Int.toNat_natCast]
              have HAp : Hid (∀ p, p < ln → ∃ q : Nat, bs.getD p 0 = (q : Int) ∧ q < n ∧ (p ≠ m → (M.above L b).getD q false = false)) := fun p hp => by
                have hp2 : p < (M.sel (M.isBase L i j) L.length).length := by have h2 := HLN.out; rw [HBS.out] at h2; unfold M.bases at h2; omega
                obtain ⟨q, hq, hqn, hqB⟩ := M.sel_at (M.isBase L i j) L.length p hp2
                refine ⟨q, by rw [ebs]; exact hq, by rw [← HL.out]; exact hqn, fun hne => ?_⟩
                have := M.sel_apart (M.isBase L i j) L.length p m hp2 hml2 hne
                rw [hq, hb] at this
                exact M.base_apart HRt.out hiL hjL b q hbn hbB hqB (by omega)
              have HVC : Hid (∀ i, i < ln → w5.cell? ⟨vb, vo + i, none⟩ = some (.int .i64 (bs.getD i 0))) := hvc
              have HAb := dabove_in a n cap L b wr (HCm.out.below (dbelow2 c5 hbel) (Nat.le_refl _)) HZ.out hbn2
              have HAB : Hid (Calls Try.prog 13 #[.slice a n cap, .int .i64 (b : Int)] wr fun e w' => ∃ g, e = .returned (.tuple #[.slice (some ⟨g, 0, none⟩) n n, .int .i64 0]) ∧ wr.heap.size ≤ g ∧ Bo w' g (M.above L b) ∧ Below wr.heap.size wr w') := HAb
              have hd1 : decide ((b : Int) < 0) = false := by simp
              have hd2 : decide ((n : Int) ≤ (b : Int)) = false := by simp; omega
              obtain ⟨U, hU⟩ : ∃ U, (bs.take m).any (fun b => (M.above L b.toNat).getD k false) = U := ⟨_, rfl⟩
              rw [hU] at HNx ⊢
              clear hvc hml2 hb hbB ebs hget hbo hU HAb hbn
              go_wp2_with fail
              refine HAB.out.mono ?_
              rintro e w6 ⟨G, rfl, hG, BG, hb6⟩
              have cgk := BG.cell (i := k) (by rw [M.above_len, HL.out]; exact hk)
              have HG : Hid (Bo w6 G (M.above L b)) := BG
              have hb7 : Below w5.heap.size w5 w6 := hbel.trans (hb6.mono hbel.size)
              obtain ⟨tg, htg⟩ : ∃ t, (M.above L b).getD k false = t := ⟨_, rfl⟩
              rw [htg] at cgk HNx
              clear htg hbel hb6 BG HAB cb cxb cyb hbel0
              cases U <;> cases tg
              all_goals (
                go_wp2
                go_loopg [25] ln (fun g v ws => ∃ p : Nat, p + g = ln ∧ v = .int .i64 p ∧ ws = w6)
                case atStart => exact ⟨0, by omega, rfl, rfl⟩
                case round =>
                  obtain ⟨p, hpg, rfl, rfl⟩ := hrel
                  by_cases hpl : p < ln
                  · have hpi : (p : Int) < (ln : Int) := by omega
                    obtain ⟨q, hq, hqn, hqa⟩ := HAp.out p hpl
                    have cp := (hb7.cell (p := ⟨vb, vo + p, none⟩) hvB).trans (HVC.out p hpl)
                    rw [hq] at cp
                    have cq := HG.out.cell (i := q) (by rw [M.above_len, HL.out]; exact hqn)
                    by_cases hpm : p = m
                    · have hpb : ((p : Int) != (m : Int)) = false := by simp [hpm]
                      clear hpm hq hqa cq
                      go_wp2
                      go_roundg (gk - 1)
                      case measure => omega
                      case rel => exact ⟨p + 1, by omega, by go_num, rfl⟩
                    · have hpb : ((p : Int) != (m : Int)) = true := by simp; omega
                      have hd3 : decide ((0 : Int) ≤ (q : Int)) = true := by simp
                      have hd4 : decide ((q : Int) < (n : Int)) = true := by simp; omega
                      rw [hqa hpm] at cq
                      clear hpm hq hqa
                      go_wp2
                      go_roundg (gk - 1)
                      case measure => omega
                      case rel => exact ⟨p + 1, by omega, by go_num, rfl⟩
                  · go_wp2
                    go_roundg (ln - (m + 1))
                    case measure => omega
                    case rel => exact ⟨m + 1, by omega, by go_num, by rw [HNx.out]; rfl, hb7⟩)
            · obtain rfl : m = ln := by omega
              have hcx := (hbel.cell (p := ⟨X, k, none⟩) hXB).trans cxk
              have hcy := (hbel.cell (p := ⟨Y, k, none⟩) hYB).trans cyk
              have hxw : X < wr.heap.size := Nat.lt_of_lt_of_le hXB hbel.size
              have hyw : Y < wr.heap.size := Nat.lt_of_lt_of_le hYB hbel.size
              have hU : (bs.take m).any (fun b => (M.above L b.toNat).getD k false) = (tk && sk) := by
                rw [List.take_of_length_le (by rw [← HLN.out]; exact Nat.le_refl _), HBS.out, M.under_any HRt.out (by rw [HL.out]; exact hi) (by rw [HL.out]; exact hj) k]
                unfold M.both
                rw [HTk.out, HSk.out]
              rw [hU]
              have c8 := dbelow2 c5 hbel
              clear hU
              go_wp2_with fail
              refine (dbegun_any wr).mono ?_
              rintro e w9 ⟨rfl, hb9⟩
              have dx := (hb9.cell (p := ⟨X, k, none⟩) hxw).trans hcx
              have dy := (hb9.cell (p := ⟨Y, k, none⟩) hyw).trans hcy
              have c9 := dbelow2 c8 hb9
              clear hcx hcy c8 hb9 cxk cyk hbel hbel0
              cases tk <;> cases sk
              all_goals (
                go_wp2
                go_ret
                exact ⟨rfl, c9⟩)
  · obtain ⟨c, hc⟩ : ∃ c, c = M.dchk L := ⟨_, rfl⟩
    rw [← hc] at HD hz
    have HDD : Hid (Calls Try.prog 11 #[.slice a n cap] w fun e w' => e = .returned (.int .i64 c) ∧ Below w.heap.size w w') := HD
    have hne : (c != 0) = true := by simp [hz]
    clear HD h hz hc hl
    go_enter Try.func4, Try.ntmps4
    go_wp2_with fail
    refine HDD.out.mono ?_
    rintro e w1 ⟨rfl, hb1⟩
    go_wp2_with fail
    refine (dbegun_any w1).mono ?_
    rintro e w3 ⟨rfl, hb3⟩
    have c3 := dbelow2 hb1 hb3
    clear hb1 hb3
    go_wp2
    go_ret
    exact ⟨rfl, c3⟩

set_option maxRecDepth 100000 in
theorem dagTrue_lifted (os : Os) (started : os.Started) (H : Type) (enc : TypeId × Value → H) :
    ReturnsInHanded {} Try.checked os 4 .any (Rows.dagTrueSpec.pre6 enc Try.prog Try.f4 Rows.dagTrueRow.domain false) (Rows.dagTrueSpec.post enc Try.prog Try.f4 false true false false) := by
  refine returnsInHanded_of_change (C := Try.checked) ownTry started (by kernel_rfl) Try.func4
    (ChangeSpec.witness6 (enc := enc) (C := Try.checked) false ⟨#[], #[.slice none 0 0, .int .i64 0, .int .i64 0, .int .i64 0], []⟩ 8 (by kernel_rfl) (by kernel_rfl) (by kernel_rfl) (by kernel_rfl)) ?_
  intro W base args ds gs before hval0 hW hcnd _
  have hval : ∀ (j : Nat) t v, Try.f4.params[j]? = some t → args[j]? = some v → Value.okWide Try.prog W .any base t v := hval0
  have hW' := hW
  obtain ⟨p, q, hA0, hV, rfl, hfz, hnd⟩ := hW
  have hA : DataW.TrodAll enc Try.prog W 0 (fun _ => true) true Try.f4.params.toList args.toList ds p := hA0
  rw [Try.params4] at hA hval
  obtain ⟨v0, vs0, d0, ds0, p0, q0, hargs, rfl, rfl, h0, r0⟩ := trodAll_cons hA
  obtain ⟨v1, vs1, d1, ds1, p1, q1, rfl, rfl, rfl, h1, r1⟩ := trodAll_cons r0
  obtain ⟨v2, vs2, d2, ds2, p2, q2, rfl, rfl, rfl, h2, r2⟩ := trodAll_cons r1
  obtain ⟨v3, vs3, d3, ds3, p3, q3, rfl, rfl, rfl, h3, r3⟩ := trodAll_cons r2
  obtain ⟨rfl, rfl, rfl⟩ := trodAll_nil r3
  obtain rfl : args = #[v0, v1, v2, v3] := by cases args; simp_all
  obtain ⟨rfl, rfl⟩ := trodVars_none hV
  obtain ⟨a0, len0, cap0, rfl⟩ := okWide_slice Try.underlying22 (hval 0 22 v0 rfl rfl)
  have k0 := h0
  have lt0 : ∀ x ∈ p0, x.block < W.heap.size := by obtain ⟨m, hm⟩ := k0; exact DataW.trod_lt m _ _ _ hm
  obtain ⟨L0, hrd0, hl0, hm0⟩ : ∃ L, Cm W a0 len0 L ∧ len0 ≤ cap0 ∧ cap0 ≤ maxLen := by
    obtain ⟨fuel, hf⟩ := h0
    exact open_coms (by simpa [Value.cells] using hf)
  obtain ⟨a1, rfl, rfl, rfl, w1⟩ := open_int Try.underlying3 (hval 1 3 v1 rfl rfl) h1
  obtain ⟨a2, rfl, rfl, rfl, w2⟩ := open_int Try.underlying3 (hval 2 3 v2 rfl rfl) h2
  obtain ⟨a3, rfl, rfl, rfl, w3⟩ := open_int Try.underlying3 (hval 3 3 v3 rfl rfl) h3
  clear hA0 hval0
  refine (dagTrue_walk a0 len0 cap0 L0 a1 a2 a3 W hrd0 (by unfold maxLen at hm0; omega) (bounds_i64 w1).1 (bounds_i64 w1).2 (bounds_i64 w2).1 (bounds_i64 w2).2 (bounds_i64 w3).1 (bounds_i64 w3).2).mono fun e W' ⟨he, bel⟩ => ?_
  subst he
  exact ⟨_, rfl, _, _, _, [], _, [], hW', trodAll_mk1 (shut_bool Try.underlying4 _), (trodAll_cons_mk (Below.trod laidTry (by kernel_rfl) (of_decide_eq_true (by kernel_rfl)) k0 bel lt0) (trodAll_cons_mk (shut_int Try.underlying3 w1) (trodAll_cons_mk (shut_int Try.underlying3 w2) (trodAll_cons_mk (shut_int Try.underlying3 w3) trodAll_mk0)))), rfl, bel.frame _, fun h => by cases h⟩

theorem dagTrue_holds : Rows.DagTrueSaid :=
  OpenClaim.holds_of_wide 4 Try.f4 rfl rfl rfl rfl rfl rfl rfl ⟨rfl, rfl, rfl, rfl, rfl⟩ rfl rfl rfl rfl rfl (by kernel_rfl) Try.func4 (by kernel_rfl)
    (of_decide_eq_true (by kernel_rfl)) (by unfold Func.isWrapper; first | (rw [if_pos (by decide +kernel)]; kernel_rfl) | (rw [if_neg (by decide +kernel)]; exact ⟨rfl, rfl⟩))
    (fun os started H enc _ => dagTrue_lifted os started H enc)
#print axioms dagTrue_holds
end Go.Proofs.Ytcgpgflnihjpiae
