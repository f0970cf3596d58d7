/- rows.Put. -/
import Derived.Test.YtcgpgflnihjpiacMem
import Derived.Test.YtcgpgflnihjpiacPut0
namespace Go.Proofs.Ytcgpgflnihjpiac
open Go.RowKit

theorem Own.lower {w : World} {base base' : Nat} {v : Value} {l : List (Int × Int)} (h : Own w base v l) (hb : base' ≤ base) : Own w base' v l := by
  obtain ⟨h1, h2⟩ := h
  refine ⟨h1, ?_⟩
  rcases h2 with h2 | ⟨g, cap, cur, hv, hg, r⟩
  · exact Or.inl h2
  · exact Or.inr ⟨g, cap, cur, hv, Nat.le_trans hb hg, r⟩

theorem concat3 (W0 : World) (c : Nat) (hc : W0.heap.size = c) (a0 a1 a2 : Option Addr) (n0 n1 n2 c0 c1 c2 : Nat) (L0 L1 L2 : List (Int × Int))
    (h0 : Rd W0 a0 n0 L0) (h1 : Rd W0 a1 n1 L1) (h2 : Rd W0 a2 n2 L2) (z0 : a0 = none → n0 = 0 ∧ c0 = 0) (z1 : a1 = none → n1 = 0 ∧ c1 = 0) (z2 : a2 = none → n2 = 0 ∧ c2 = 0) (hbig : n0 + n1 + n2 ≤ 1000000) :
    Calls Try.prog 41 #[.slice (some ⟨c, 0, none⟩) 3 3] (W0.alloc (.cells #[.slice a0 n0 c0, .slice a1 n1 c1, .slice a2 n2 c2] 32)) fun e w' => ∃ a nn cap, e = .returned (.slice a nn cap) ∧ Rd w' a nn (L0 ++ L1 ++ L2) ∧ nn ≤ cap ∧ cap ≤ maxLen ∧ ((a = none → nn = 0 ∧ cap = 0) ∧ Own w' W0.heap.size (.slice a nn cap) (L0 ++ L1 ++ L2)) ∧ Below W0.heap.size W0 w' := by
  subst hc
  obtain ⟨W, hW⟩ : ∃ W, W = W0.alloc (.cells #[.slice a0 n0 c0, .slice a1 n1 c1, .slice a2 n2 c2] 32) := ⟨_, rfl⟩
  have hb : Below W0.heap.size W0 W := by rw [hW]; exact (Below.refl _ _).alloc (Nat.le_refl _) _
  have hsz : W.heap.size = W0.heap.size + 1 := by rw [hW]; simp
  have hR : Rds W W0.heap.size 0 3 (fun i => if i = 0 then a0 else if i = 1 then a1 else a2) (fun i => if i = 0 then c0 else if i = 1 then c1 else c2) [L0, L1, L2] := by
    refine ⟨rfl, by omega, fun i hi => ?_⟩
    have e0 := h0.1
    have e1 := h1.1
    have e2 := h2.1
    match i, hi with
    | 0, _ => exact ⟨by rw [hW]; simp [go_sem, e0], by simpa [e0] using h0.below hb (Nat.le_refl _), by simpa [e0] using z0⟩
    | 1, _ => exact ⟨by rw [hW]; simp [go_sem, e1], by simpa [e1] using h1.below hb (Nat.le_refl _), by simpa [e1] using z1⟩
    | 2, _ => exact ⟨by rw [hW]; simp [go_sem, e2], by simpa [e2] using h2.below hb (Nat.le_refl _), by simpa [e2] using z2⟩
  rw [← hW]
  refine (concat_any W0.heap.size 0 3 3 _ _ [L0, L1, L2] W (by omega) hR (by simp [h0.1, h1.1, h2.1]; omega)).mono ?_
  rintro e w' ⟨v, rfl, hown, hb2⟩
  have ef : [L0, L1, L2].flatten = L0 ++ L1 ++ L2 := by simp
  rw [ef] at hown
  obtain ⟨a, cap, rfl, r1, r2, r3, r4⟩ := hown.rd
  exact ⟨a, _, cap, rfl, r1, r2, r3, ⟨r4, hown.lower (by omega)⟩, hb.trans (hb2.mono (by omega))⟩

/-- What Put hands back where it is right. -/
def Done (w w' : World) (L : List (Int × Int)) (e : Ending) : Prop := ∃ a nn cap, e = .returned (.tuple #[.slice a nn cap, .int .i64 0]) ∧ Rd w' a nn L ∧ nn ≤ cap ∧ cap ≤ maxLen ∧ ((a = none → nn = 0 ∧ cap = 0) ∧ Own w' w.heap.size (.slice a nn cap) L) ∧ Below w.heap.size w w'

theorem Done.mk {w w1 w2 w' : World} {L L' : List (Int × Int)} {a : Option Addr} {nn cap : Nat} (hL : L' = L) (h1 : Rd w' a nn L) (h2 : nn ≤ cap) (h3 : cap ≤ maxLen) (h4 : (a = none → nn = 0 ∧ cap = 0) ∧ Own w' w2.heap.size (.slice a nn cap) L) (b1 : Below w.heap.size w w1) (b2 : Below w1.heap.size w1 w2) (b3 : Below w2.heap.size w2 w') :
    Done w w' L' (.returned (.tuple #[.slice a nn cap, .int .i64 0])) := by
  subst hL
  have b4 := b2.trans (b3.mono b2.size)
  exact ⟨a, nn, cap, rfl, h1, h2, h3, ⟨h4.1, h4.2.lower (Nat.le_trans b1.size b2.size)⟩, b1.trans (b4.mono b1.size)⟩

set_option maxHeartbeats 4000000 in
theorem put_some (b off n cap : Nat) (l : List (Int × Int)) (key val : Int) (w : World) (hcap : n ≤ cap) (_hcm : cap ≤ maxLen) (h : Rd w (some ⟨b, off, none⟩) n l) (hb : M.asked l key = 0) (hv : -1 ≤ val) (hv2 : val ≤ 996) (hfew : (M.put key val l).length ≤ 40) :
    Calls Try.prog 16 #[.slice (some ⟨b, off, none⟩) n cap, .int .i64 key, .int .i64 val] w fun e w' => Done w w' (M.put key val l) e := by
  have hz := M.asked_zero hb
  have hz2 := (M.chk_zero l).1 hz.1
  have hn40 : n ≤ 40 := by rw [← h.1]; exact hz2.1
  have H := asked_any (some ⟨b, off, none⟩) n cap l key w h (by omega)
  rw [hb] at H
  have HH : Hid (Calls Try.prog 39 #[.slice (some ⟨b, off, none⟩) n cap, .int .i64 key] w fun e w' => e = .returned (.int .i64 0) ∧ Below w.heap.size w w') := H
  have HR : Hid (Rd w (some ⟨b, off, none⟩) n l) := h
  have HZ : Hid (M.chk l = 0) := hz.1
  have HOk : Hid (M.Ok l) := hz2.2
  have HF : Hid ((M.put key val l).length ≤ 40) := hfew
  clear H hb hz h hz2 hfew
  unfold maxLen at _hcm
  have hd : decide (val < -1) = false := by simp; omega
  go_enter Try.func16, Try.ntmps16
  go_wp2_with fail
  refine HH.out.mono ?_
  rintro e w1 ⟨rfl, hb1⟩
  have HR1 : Hid (Rd w1 (some ⟨b, off, none⟩) n l) := HR.out.below hb1 (Nat.le_refl _)
  go_wp2_with fail
  refine (place_any (some ⟨b, off, none⟩) n cap l key w1 HR1.out HZ.out).mono ?_
  rintro e w2 ⟨k, t, rfl, hat, hb2⟩
  have hb3 := hb1.trans (hb2.mono hb1.size)
  have HR2 : Hid (Rd w2 (some ⟨b, off, none⟩) n l) := HR1.out.below hb2 (Nat.le_refl _)
  have hk : k ≤ n := by have := hat.1; rw [HR2.out.1] at this; exact this
  have HAt : Hid (M.At l key k t) := hat
  clear hat hb1 hb2
  cases t with
  | true =>
    have hk1 : k < n := by have := HAt.out.yes.1; rw [HR2.out.1] at this; exact this
    by_cases hv0 : val = -1
    · have hvb : (val != -1) = false := by simp [hv0]
      have E : Hid (M.put key val l = l.take k ++ [] ++ l.drop (k + 1)) := by unfold Hid M.put M.own; rw [HAt.out.lows HOk.out, HAt.out.highs_yes HOk.out, if_pos hv0]
      clear hv0
      go_wp2_with fail
      go_quiet (fail)
      go_wp2_with fail
      all_goals (
        have R := HR2.out.below (drewN_below w2 nq) (Nat.le_refl _)
        have R2 : Rd (w2.drewN nq) (some ⟨b, off + k * 2 + 2, none⟩) (n - k - 1) (l.drop (k + 1)) := by
          have h := R.drop (k + 1)
          rwa [show off + (k + 1) * 2 = off + k * 2 + 2 by omega, show n - (k + 1) = n - k - 1 by omega] at h
        refine (concat3 (w2.drewN nq) w2.heap.size rfl _ _ _ _ _ _ _ _ _ (l.take k) [] (l.drop (k + 1)) (R.take k hk) (Rd.zero rfl rfl) (by first | exact R2 | exact Rd.zero (by omega) R2.1) (by simp) (by simp) (by simp) (by omega)).mono ?_
        rintro e w3 ⟨a', nn, cap', rfl, r1, r2, r3, r4, hb4⟩
        have F : Hid (Done w w3 (M.put key val l) (.returned (.tuple #[.slice a' nn cap', .int .i64 0]))) := Done.mk E.out r1 r2 r3 r4 hb3 (drewN_below w2 nq) hb4
        clear r1 r2 r3 r4 R R2 hb4
        go_wp2
        go_ret2
        exact F.out)
    · have hvb : (val != -1) = true := by simp [hv0]
      have E : Hid (M.put key val l = l.take k ++ [(key, val)] ++ l.drop (k + 1)) := by unfold Hid M.put M.own; rw [HAt.out.lows HOk.out, HAt.out.highs_yes HOk.out, if_neg hv0]
      clear hv0
      go_wp2_with fail
      go_quiet (fail)
      go_wp2_with fail
      all_goals (
        have R := (HR2.out.below (drewN_below w2 nq) (Nat.le_refl _)).below (w' := (w2.drewN nq).alloc (.cells #[.int .i64 key, .int .i64 val] 56)) ((Below.refl _ _).alloc (Nat.le_refl _) _) (Nat.le_refl _)
        have R2 : Rd ((w2.drewN nq).alloc (.cells #[.int .i64 key, .int .i64 val] 56)) (some ⟨b, off + k * 2 + 2, none⟩) (n - k - 1) (l.drop (k + 1)) := by
          have h := R.drop (k + 1)
          rwa [show off + (k + 1) * 2 = off + k * 2 + 2 by omega, show n - (k + 1) = n - k - 1 by omega] at h
        refine (concat3 ((w2.drewN nq).alloc (.cells #[.int .i64 key, .int .i64 val] 56)) (w2.heap.size + 1) (by simp) _ _ _ _ _ _ _ _ _ (l.take k) [(key, val)] (l.drop (k + 1)) (R.take k hk) (one_rd (w2.drewN nq) key val) (by first | exact R2 | exact Rd.zero (by omega) R2.1) (by simp) (by simp) (by simp) (by omega)).mono ?_
        rintro e w3 ⟨a', nn, cap', rfl, r1, r2, r3, r4, hb4⟩
        have F : Hid (Done w w3 (M.put key val l) (.returned (.tuple #[.slice a' nn cap', .int .i64 0]))) := Done.mk E.out r1 r2 r3 r4 hb3 ((drewN_below w2 nq).alloc (Nat.le_refl _) _) hb4
        clear r1 r2 r3 r4 R R2 hb4
        go_wp2
        go_ret2
        exact F.out)
  | false =>
    by_cases hv0 : val = -1
    · have hvb : (val != -1) = false := by simp [hv0]
      have E : Hid (M.put key val l = l.take k ++ [] ++ l.drop k) := by unfold Hid M.put M.own; rw [HAt.out.lows HOk.out, HAt.out.highs_no HOk.out, if_pos hv0]
      clear hv0
      go_wp2_with fail
      go_quiet (fail)
      go_wp2_with fail
      all_goals (
        have R := HR2.out.below (drewN_below w2 nq) (Nat.le_refl _)
        have R2 : Rd (w2.drewN nq) (some ⟨b, off + k * 2, none⟩) (n - k) (l.drop k) := by
          exact R.drop k
        refine (concat3 (w2.drewN nq) w2.heap.size rfl _ _ _ _ _ _ _ _ _ (l.take k) [] (l.drop k) (R.take k hk) (Rd.zero rfl rfl) (by first | exact R2 | exact Rd.zero (by omega) R2.1) (by simp) (by simp) (by simp) (by omega)).mono ?_
        rintro e w3 ⟨a', nn, cap', rfl, r1, r2, r3, r4, hb4⟩
        have F : Hid (Done w w3 (M.put key val l) (.returned (.tuple #[.slice a' nn cap', .int .i64 0]))) := Done.mk E.out r1 r2 r3 r4 hb3 (drewN_below w2 nq) hb4
        clear r1 r2 r3 r4 R R2 hb4
        go_wp2
        go_ret2
        exact F.out)
    · have hvb : (val != -1) = true := by simp [hv0]
      have E : Hid (M.put key val l = l.take k ++ [(key, val)] ++ l.drop k) := by unfold Hid M.put M.own; rw [HAt.out.lows HOk.out, HAt.out.highs_no HOk.out, if_neg hv0]
      have hn39 : n ≤ 39 := by
        have h := HF.out
        rw [E.out] at h
        simp only [List.length_append, List.length_take, List.length_drop, List.length_cons, List.length_nil, HR2.out.1] at h
        omega
      clear hv0
      go_wp2_with fail
      go_quiet (fail)
      go_wp2_with fail
      all_goals (
        have R := (HR2.out.below (drewN_below w2 nq) (Nat.le_refl _)).below (w' := (w2.drewN nq).alloc (.cells #[.int .i64 key, .int .i64 val] 56)) ((Below.refl _ _).alloc (Nat.le_refl _) _) (Nat.le_refl _)
        have R2 : Rd ((w2.drewN nq).alloc (.cells #[.int .i64 key, .int .i64 val] 56)) (some ⟨b, off + k * 2, none⟩) (n - k) (l.drop k) := by
          exact R.drop k
        refine (concat3 ((w2.drewN nq).alloc (.cells #[.int .i64 key, .int .i64 val] 56)) (w2.heap.size + 1) (by simp) _ _ _ _ _ _ _ _ _ (l.take k) [(key, val)] (l.drop k) (R.take k hk) (one_rd (w2.drewN nq) key val) (by first | exact R2 | exact Rd.zero (by omega) R2.1) (by simp) (by simp) (by simp) (by omega)).mono ?_
        rintro e w3 ⟨a', nn, cap', rfl, r1, r2, r3, r4, hb4⟩
        have F : Hid (Done w w3 (M.put key val l) (.returned (.tuple #[.slice a' nn cap', .int .i64 0]))) := Done.mk E.out r1 r2 r3 r4 hb3 ((drewN_below w2 nq).alloc (Nat.le_refl _) _) hb4
        clear r1 r2 r3 r4 R R2 hb4
        go_wp2
        go_ret2
        exact F.out)

set_option maxHeartbeats 1000000 in
theorem put_bad (a : Option Addr) (n cap : Nat) (l : List (Int × Int)) (key val : Int) (w : World) (h : Rd w a n l) (hm : n ≤ 9223372036854775807) (hb : M.asked l key ≠ 0) :
    Calls Try.prog 16 #[.slice a n cap, .int .i64 key, .int .i64 val] w fun e w' => e = .returned (.tuple #[.slice none 0 0, .int .i64 (M.asked l key)]) ∧ Below w.heap.size w w' := by
  have H := asked_any a n cap l key w h hm
  obtain ⟨c, hc⟩ : ∃ c, c = M.asked l key := ⟨_, rfl⟩
  rw [← hc] at H hb ⊢
  clear hc h
  have hne : (c != 0) = true := by simp [hb]
  clear hb
  have HH : Hid (Calls Try.prog 39 #[.slice a n cap, .int .i64 key] w fun e w' => e = .returned (.int .i64 c) ∧ Below w.heap.size w w') := H
  clear H
  go_enter Try.func16, Try.ntmps16
  go_wp2_with (go_at_call 39; refine HH.out.mono ?_; rintro e w' ⟨rfl, hb1⟩)
  go_ret2
  exact ⟨rfl, hb1⟩

set_option maxHeartbeats 1000000 in
theorem put_range (a : Option Addr) (n cap : Nat) (l : List (Int × Int)) (key val : Int) (w : World) (h : Rd w a n l) (hm : n ≤ 9223372036854775807) (hb : M.asked l key = 0) (hv : val < -1 ∨ 996 < val) :
    Calls Try.prog 16 #[.slice a n cap, .int .i64 key, .int .i64 val] w fun e w' => e = .returned (.tuple #[.slice none 0 0, .int .i64 3]) ∧ Below w.heap.size w w' := by
  have H := asked_any a n cap l key w h hm
  rw [hb] at H
  clear h hb
  have HH : Hid (Calls Try.prog 39 #[.slice a n cap, .int .i64 key] w fun e w' => e = .returned (.int .i64 0) ∧ Below w.heap.size w w') := H
  clear H
  rcases hv with hv | hv
  · go_enter Try.func16, Try.ntmps16
    go_wp2_with (go_at_call 39; refine HH.out.mono ?_; rintro e w' ⟨rfl, hb1⟩)
    go_ret2
    exact ⟨rfl, hb1⟩
  · have hd : decide (val < -1) = false := by simp; omega
    go_enter Try.func16, Try.ntmps16
    go_wp2_with (go_at_call 39; refine HH.out.mono ?_; rintro e w' ⟨rfl, hb1⟩)
    go_ret2
    exact ⟨rfl, hb1⟩

set_option maxHeartbeats 2000000 in
theorem put_many (b off n cap : Nat) (l : List (Int × Int)) (key val : Int) (w : World) (hcap : n ≤ cap) (_hcm : cap ≤ maxLen) (h : Rd w (some ⟨b, off, none⟩) n l) (hb : M.asked l key = 0) (hv : -1 ≤ val) (hv2 : val ≤ 996) (hmany : 40 < (M.put key val l).length) :
    Calls Try.prog 16 #[.slice (some ⟨b, off, none⟩) n cap, .int .i64 key, .int .i64 val] w fun e w' => e = .returned (.tuple #[.slice none 0 0, .int .i64 2]) ∧ Below w.heap.size w w' := by
  have hz := M.asked_zero hb
  have hz2 := (M.chk_zero l).1 hz.1
  have hn40 : n ≤ 40 := by rw [← h.1]; exact hz2.1
  have H := asked_any (some ⟨b, off, none⟩) n cap l key w h (by omega)
  rw [hb] at H
  have HH : Hid (Calls Try.prog 39 #[.slice (some ⟨b, off, none⟩) n cap, .int .i64 key] w fun e w' => e = .returned (.int .i64 0) ∧ Below w.heap.size w w') := H
  have HR : Hid (Rd w (some ⟨b, off, none⟩) n l) := h
  have HZ : Hid (M.chk l = 0) := hz.1
  have HOk : Hid (M.Ok l) := hz2.2
  have HF : Hid (40 < (M.put key val l).length) := hmany
  clear H hb hz h hz2 hmany
  unfold maxLen at _hcm
  have hd : decide (val < -1) = false := by simp; omega
  go_enter Try.func16, Try.ntmps16
  go_wp2_with fail
  refine HH.out.mono ?_
  rintro e w1 ⟨rfl, hb1⟩
  have HR1 : Hid (Rd w1 (some ⟨b, off, none⟩) n l) := HR.out.below hb1 (Nat.le_refl _)
  go_wp2_with fail
  refine (place_any (some ⟨b, off, none⟩) n cap l key w1 HR1.out HZ.out).mono ?_
  rintro e w2 ⟨k, t, rfl, hat, hb2⟩
  have hb3 := hb1.trans (hb2.mono hb1.size)
  have HR2 : Hid (Rd w2 (some ⟨b, off, none⟩) n l) := HR1.out.below hb2 (Nat.le_refl _)
  have hk : k ≤ n := by have := hat.1; rw [HR2.out.1] at this; exact this
  have HAt : Hid (M.At l key k t) := hat
  clear hat hb1 hb2
  cases t with
  | true =>
    have hk1 : k < n := by have := HAt.out.yes.1; rw [HR2.out.1] at this; exact this
    have h := HF.out
    have h2 : (M.own key val).length ≤ 1 := by unfold M.own; split <;> simp
    unfold M.put at h
    rw [HAt.out.lows HOk.out, HAt.out.highs_yes HOk.out] at h
    simp only [List.length_append, List.length_take, List.length_drop, HR2.out.1] at h
    omega
  | false =>
    have h := HF.out
    unfold M.put at h
    rw [HAt.out.lows HOk.out, HAt.out.highs_no HOk.out] at h
    simp only [List.length_append, List.length_take, List.length_drop, HR2.out.1] at h
    have h2 : (M.own key val).length ≤ 1 := by unfold M.own; split <;> simp
    have hv0 : val ≠ -1 := by
      intro e
      unfold M.own at h
      rw [if_pos e] at h
      simp at h
      omega
    have hn : 40 ≤ n := by omega
    clear h h2
    have hvb : (val != -1) = true := by simp [hv0]
    clear hv0
    go_wp2_with fail
    go_quiet (fail)
    go_wp2_with fail
    all_goals (
      go_ret2
      exact ⟨rfl, (below_drewN hb3 nq).alloc (Nat.le_trans hb3.size (Nat.le_refl _)) _⟩)

theorem at_nil {key : Int} {k : Nat} {t : Bool} (h : M.At [] key k t) : k = 0 ∧ t = false := by
  obtain ⟨h1, _, _, h4⟩ := h
  refine ⟨by simpa using h1, ?_⟩
  cases t with
  | false => rfl
  | true => have := h4.1 rfl; simp at this

set_option maxHeartbeats 2000000 in
theorem put_none (a : Option Addr) (cap : Nat) (key val : Int) (w : World) (_hcm : cap ≤ maxLen) (hnil : a = none → cap = 0) (hb : M.asked [] key = 0) (hv : -1 ≤ val) (hv2 : val ≤ 996) :
    Calls Try.prog 16 #[.slice a 0 cap, .int .i64 key, .int .i64 val] w fun e w' => Done w w' (M.put key val []) e := by
  have h : Rd w a 0 [] := Rd.zero rfl rfl
  have hz := M.asked_zero hb
  have H := asked_any a 0 cap [] key w h (by omega)
  rw [hb] at H
  have HH : Hid (Calls Try.prog 39 #[.slice a 0 cap, .int .i64 key] w fun e w' => e = .returned (.int .i64 0) ∧ Below w.heap.size w w') := H
  have HZ : Hid (M.chk [] = 0) := hz.1
  clear H hb hz h
  unfold maxLen at _hcm
  have hd : decide (val < -1) = false := by simp; omega
  have HN : Hid (a = none → cap = 0) := hnil
  clear hnil
  go_enter Try.func16, Try.ntmps16
  go_wp2_with fail
  refine HH.out.mono ?_
  rintro e w1 ⟨rfl, hb1⟩
  go_wp2_with fail
  refine (place_any a 0 cap [] key w1 (Rd.zero rfl rfl) HZ.out).mono ?_
  rintro e w2 ⟨k, t, rfl, hat, hb2⟩
  obtain ⟨rfl, rfl⟩ := at_nil hat
  have hb3 := hb1.trans (hb2.mono hb1.size)
  clear hat hb1 hb2
  cases a with
  | none =>
    obtain rfl : cap = 0 := HN.out rfl
    by_cases hv0 : val = -1
    · have hvb : (val != -1) = false := by simp [hv0]
      have E : Hid (M.put key val [] = [] ++ [] ++ []) := by unfold Hid M.put M.own; rw [if_pos hv0]; rfl
      clear hv0
      go_wp2_with fail
      go_quiet (fail)
      go_wp2_with fail
      all_goals (
        refine (concat3 (w2.drewN nq) w2.heap.size rfl _ _ _ _ _ _ _ _ _ [] [] [] (Rd.zero rfl rfl) (Rd.zero rfl rfl) (Rd.zero rfl rfl) (by simp) (by simp) (by simp) (by omega)).mono ?_
        rintro e w3 ⟨a', nn, cap', rfl, r1, r2, r3, r4, hb4⟩
        have F : Hid (Done w w3 (M.put key val []) (.returned (.tuple #[.slice a' nn cap', .int .i64 0]))) := Done.mk E.out r1 r2 r3 r4 hb3 (drewN_below w2 nq) hb4
        clear r1 r2 r3 r4 hb4
        go_wp2
        go_ret2
        exact F.out)
    · have hvb : (val != -1) = true := by simp [hv0]
      have E : Hid (M.put key val [] = [] ++ [(key, val)] ++ []) := by unfold Hid M.put M.own; rw [if_neg hv0]; rfl
      clear hv0
      go_wp2_with fail
      go_quiet (fail)
      go_wp2_with fail
      all_goals (
        refine (concat3 ((w2.drewN nq).alloc (.cells #[.int .i64 key, .int .i64 val] 56)) (w2.heap.size + 1) (by simp) _ _ _ _ _ _ _ _ _ [] [(key, val)] [] (Rd.zero rfl rfl) (one_rd (w2.drewN nq) key val) (Rd.zero rfl rfl) (by simp) (by simp) (by simp) (by omega)).mono ?_
        rintro e w3 ⟨a', nn, cap', rfl, r1, r2, r3, r4, hb4⟩
        have F : Hid (Done w w3 (M.put key val []) (.returned (.tuple #[.slice a' nn cap', .int .i64 0]))) := Done.mk E.out r1 r2 r3 r4 hb3 ((drewN_below w2 nq).alloc (Nat.le_refl _) _) hb4
        clear r1 r2 r3 r4 hb4
        go_wp2
        go_ret2
        exact F.out)
  | some ad =>
    obtain ⟨b, off, spot⟩ := ad
    by_cases hv0 : val = -1
    · have hvb : (val != -1) = false := by simp [hv0]
      have E : Hid (M.put key val [] = [] ++ [] ++ []) := by unfold Hid M.put M.own; rw [if_pos hv0]; rfl
      clear hv0
      go_wp2_with fail
      go_quiet (fail)
      go_wp2_with fail
      all_goals (
        refine (concat3 (w2.drewN nq) w2.heap.size rfl _ _ _ _ _ _ _ _ _ [] [] [] (Rd.zero rfl rfl) (Rd.zero rfl rfl) (Rd.zero rfl rfl) (by simp) (by simp) (by simp) (by omega)).mono ?_
        rintro e w3 ⟨a', nn, cap', rfl, r1, r2, r3, r4, hb4⟩
        have F : Hid (Done w w3 (M.put key val []) (.returned (.tuple #[.slice a' nn cap', .int .i64 0]))) := Done.mk E.out r1 r2 r3 r4 hb3 (drewN_below w2 nq) hb4
        clear r1 r2 r3 r4 hb4
        go_wp2
        go_ret2
        exact F.out)
    · have hvb : (val != -1) = true := by simp [hv0]
      have E : Hid (M.put key val [] = [] ++ [(key, val)] ++ []) := by unfold Hid M.put M.own; rw [if_neg hv0]; rfl
      clear hv0
      go_wp2_with fail
      go_quiet (fail)
      go_wp2_with fail
      all_goals (
        refine (concat3 ((w2.drewN nq).alloc (.cells #[.int .i64 key, .int .i64 val] 56)) (w2.heap.size + 1) (by simp) _ _ _ _ _ _ _ _ _ [] [(key, val)] [] (Rd.zero rfl rfl) (one_rd (w2.drewN nq) key val) (Rd.zero rfl rfl) (by simp) (by simp) (by simp) (by omega)).mono ?_
        rintro e w3 ⟨a', nn, cap', rfl, r1, r2, r3, r4, hb4⟩
        have F : Hid (Done w w3 (M.put key val []) (.returned (.tuple #[.slice a' nn cap', .int .i64 0]))) := Done.mk E.out r1 r2 r3 r4 hb3 ((drewN_below w2 nq).alloc (Nat.le_refl _) _) hb4
        clear r1 r2 r3 r4 hb4
        go_wp2
        go_ret2
        exact F.out)

/-- What a call hands back that answers rows and an error. -/
def Hands (w w' : World) (L : List (Int × Int)) (c : Int) (e : Ending) : Prop := ∃ a nn cap, e = .returned (.tuple #[.slice a nn cap, .int .i64 c]) ∧ Rd w' a nn L ∧ nn ≤ cap ∧ cap ≤ maxLen ∧ (a = none → nn = 0 ∧ cap = 0) ∧ Below w.heap.size w w'

theorem Hands.err {w w' : World} (c : Int) (hb : Below w.heap.size w w') : Hands w w' [] c (.returned (.tuple #[.slice none 0 0, .int .i64 c])) :=
  ⟨none, 0, 0, rfl, Rd.zero rfl rfl, Nat.le_refl _, by simp [maxLen], fun _ => ⟨rfl, rfl⟩, hb⟩

/-- .. in rows of the call's own. -/
def HandsO (w w' : World) (L : List (Int × Int)) (c : Int) (e : Ending) : Prop := ∃ a nn cap, e = .returned (.tuple #[.slice a nn cap, .int .i64 c]) ∧ Rd w' a nn L ∧ nn ≤ cap ∧ cap ≤ maxLen ∧ ((a = none → nn = 0 ∧ cap = 0) ∧ Own w' w.heap.size (.slice a nn cap) L) ∧ Below w.heap.size w w'
theorem HandsO.err {w w' : World} (c : Int) (hb : Below w.heap.size w w') : HandsO w w' [] c (.returned (.tuple #[.slice none 0 0, .int .i64 c])) :=
  ⟨none, 0, 0, rfl, Rd.zero rfl rfl, Nat.le_refl _, by simp [maxLen], ⟨fun _ => ⟨rfl, rfl⟩, World.ownsRow_nil _ _ _ _⟩, hb⟩
theorem HandsO.hands {w w' : World} {L : List (Int × Int)} {c : Int} {e : Ending} (h : HandsO w w' L c e) : Hands w w' L c e := by
  obtain ⟨a, nn, cap, h1, h2, h3, h4, h5, h6⟩ := h
  exact ⟨a, nn, cap, h1, h2, h3, h4, h5.1, h6⟩

theorem put_own (a : Option Addr) (n cap : Nat) (l : List (Int × Int)) (key val : Int) (w : World) (h : Rd w a n l) (hcap : n ≤ cap) (hcm : cap ≤ maxLen) (hnil : a = none → n = 0 ∧ cap = 0) :
    Calls Try.prog 16 #[.slice a n cap, .int .i64 key, .int .i64 val] w fun e w' => HandsO w w' (M.putV l key val) (M.putE l key val) e := by
  have hm : n ≤ 9223372036854775807 := by unfold maxLen at hcm; omega
  by_cases hb : M.asked l key = 0
  · by_cases hv : val < -1 ∨ 996 < val
    · have e1 := M.putE_range hb hv
      rw [M.putV_no (by omega), e1]
      refine (put_range a n cap l key val w h hm hb hv).mono ?_
      rintro e w' ⟨rfl, hb1⟩
      exact HandsO.err 3 hb1
    · by_cases hmany : 40 < (M.put key val l).length
      · have e1 := M.putE_many hb (by omega) (by omega) hmany
        rw [M.putV_no (by omega), e1]
        rcases h.cases with ⟨rfl, rfl⟩ | ⟨b, off, rfl, hn, hl, hB, hc⟩
        · exfalso
          have h2 : (M.own key val).length ≤ 1 := by unfold M.own; split <;> simp
          simp [M.put, M.lows, M.highs] at hmany
          omega
        · refine (put_many b off n cap l key val w hcap hcm h hb (by omega) (by omega) hmany).mono ?_
          rintro e w' ⟨rfl, hb1⟩
          exact HandsO.err 2 hb1
      · have e1 := M.putE_ok hb (val := val) (by omega) (by omega) (by omega)
        rw [M.putV_ok e1, e1]
        rcases h.cases with ⟨rfl, rfl⟩ | ⟨b, off, rfl, hn, hl, hB, hc⟩
        · exact put_none a cap key val w hcm (fun h => (hnil h).2) hb (by omega) (by omega)
        · exact put_some b off n cap l key val w hcap hcm h hb (by omega) (by omega) (by omega)
  · have e1 := M.putE_bad (val := val) hb
    rw [M.putV_no (by omega), e1]
    refine (put_bad a n cap l key val w h hm hb).mono ?_
    rintro e w' ⟨rfl, hb1⟩
    exact HandsO.err _ hb1
theorem put_any (a : Option Addr) (n cap : Nat) (l : List (Int × Int)) (key val : Int) (w : World) (h : Rd w a n l) (hcap : n ≤ cap) (hcm : cap ≤ maxLen) (hnil : a = none → n = 0 ∧ cap = 0) :
    Calls Try.prog 16 #[.slice a n cap, .int .i64 key, .int .i64 val] w fun e w' => Hands w w' (M.putV l key val) (M.putE l key val) e := (put_own a n cap l key val w h hcap hcm hnil).mono fun _ _ h => h.hands
end Go.Proofs.Ytcgpgflnihjpiac
