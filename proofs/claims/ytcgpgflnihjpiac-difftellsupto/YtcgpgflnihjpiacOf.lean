/- levels.Of; trees in memory. -/
import Derived.Test.YtcgpgflnihjpiacTell
namespace Go.Proofs.Ytcgpgflnihjpiac
open Go.RowKit

theorem infoLevels : (Try.prog.info? 58).map (fun i => (i.zero, i.size, i.bytes)) = some (some (.slice none 0 0), 1, 24) := by kernel_rfl

/-- The levels T lie in rows of the call's own. -/
def OwnT (W : World) (m : Nat) (v : Value) (T : List (List (List (Int × Int)))) : Prop :=
  ∃ vals, W.ownsRow m 58 1 v T.length vals ∧ ∀ i u, vals[i]? = some u → OwnLL W m u (T.getD i [])
theorem OwnT.nil (W : World) (m : Nat) : OwnT W m (.slice none 0 0) [] := ⟨[], World.ownsRow_nil _ _ _ _, fun i u h => by simp at h⟩
theorem OwnT.kept {W W' : World} {m : Nat} {v : Value} {T : List (List (List (Int × Int)))} (h : OwnT W m v T) {row : Option Nat} (hg : W.grownBy W' row)
    (hrow : ∀ r, row = some r → ∀ cur, W.heap[r]? ≠ some (.cells cur 58 (0, 0)) ∧ W.heap[r]? ≠ some (.cells cur 32 (0, 0)) ∧ W.heap[r]? ≠ some (.cells cur 56 (0, 0))) : OwnT W' m v T := by
  obtain ⟨vals, h1, h2⟩ := h
  exact ⟨vals, ownsRow_other h1 hg fun r e cur => (hrow r e cur).1, fun i u hu => (h2 i u hu).kept hg fun r e cur => (hrow r e cur).2⟩
theorem OwnT.mono {w : World} {base base' : Nat} {v : Value} {T : List (List (List (Int × Int)))} (h : OwnT w base v T) (hb : base' ≤ base) : OwnT w base' v T := by
  obtain ⟨vals, h1, h2⟩ := h
  exact ⟨vals, ownsRow_mono h1 hb, fun i u hu => (h2 i u hu).mono hb⟩
theorem levels_row {W : World} {m n : Nat} {v : Value} {vals : List Value} {tmp : Obj} (h1 : W.ownsRow m 58 1 v n vals) : ∀ r, v.ownBlock = some r → ∀ cur, (W.alloc tmp).heap[r]? ≠ some (.cells cur 32 (0, 0)) ∧ (W.alloc tmp).heap[r]? ≠ some (.cells cur 56 (0, 0)) := by
  intro r e cur
  rcases (h1.alloc tmp).2 with ⟨rfl, _⟩ | ⟨g, cap, cur', rfl, _, hgb, _⟩
  · simp [Value.ownBlock] at e
  · obtain rfl : g = r := by simpa [Value.ownBlock] using e
    rw [hgb]
    exact ⟨by simp, by simp⟩
/-- One level more. -/
theorem OwnT.append {W W1 : World} {m : Nat} {v v' u : Value} {T : List (List (List (Int × Int)))} {LL : List (List (Int × Int))} {vals : List Value} {tmp : Obj} (h1 : W.ownsRow m 58 1 v T.length vals) (h2 : ∀ i u, vals[i]? = some u → OwnLL W m u (T.getD i []))
    (hu : OwnLL W m u LL) (h3 : W1.ownsRow m 58 1 v' (T.length + 1) (vals ++ [u])) (hg : (W.alloc tmp).grownBy W1 v.ownBlock) : OwnT W1 m v' (T ++ [LL]) ∧ OwnLL W1 m u LL := by
  have hvl : vals.length = T.length := by have := h1.1; omega
  have hrow := levels_row (tmp := tmp) h1
  have hkeep : ∀ {x L}, OwnLL W m x L → OwnLL W1 m x L := fun h => (h.kept (grown_none ((Below.refl _ _).alloc (Nat.le_refl _) tmp)) (fun r e => by cases e)).kept hg hrow
  refine ⟨⟨vals ++ [u], by simpa using h3, fun i x hx => ?_⟩, hkeep hu⟩
  by_cases hi : i < T.length
  · rw [List.getElem?_append_left (by omega)] at hx
    have e : (T ++ [LL]).getD i [] = T.getD i [] := by simp [List.getD, List.getElem?_append_left hi]
    rw [e]
    exact hkeep (h2 i x hx)
  · have hi2 : i = T.length := by
      have := (List.getElem?_eq_some_iff.1 hx).1
      simp at this; omega
    subst hi2
    have e : (T ++ [LL]).getD T.length [] = LL := by simp [List.getD]
    rw [e]
    rw [List.getElem?_append_right (by omega)] at hx
    simp [hvl] at hx
    subst hx
    exact hkeep hu

/-- A tree: levels side by side in memory. -/
def LvS (w : World) (a : Option Addr) (n c : Nat) (LL : List (List (Int × Int))) : Prop := Lv w a n LL ∧ n ≤ c ∧ c ≤ maxLen ∧ (a = none → n = 0 ∧ c = 0)
theorem LvS.below {w w' : World} {a : Option Addr} {n c : Nat} {LL : List (List (Int × Int))} (h : LvS w a n c LL) (hb : Below w.heap.size w w') : LvS w' a n c LL := ⟨h.1.below hb, h.2⟩
theorem LvS.len {w : World} {a : Option Addr} {n c : Nat} {LL : List (List (Int × Int))} (h : LvS w a n c LL) : n ≤ 9223372036854775807 := by have h1 := h.2.1; have h2 := h.2.2.1; unfold maxLen at h2; omega
def Tv (w : World) (a : Option Addr) (n : Nat) (T : List (List (List (Int × Int)))) : Prop :=
  T.length = n ∧ (n = 0 ∨ ∃ b off, a = some ⟨b, off, none⟩ ∧ b < w.heap.size ∧ ∀ i, i < n → ∃ a' n' c', w.cell? ⟨b, off + i, none⟩ = some (.slice a' n' c') ∧ LvS w a' n' c' (T.getD i []))
theorem Tv.below {w w' : World} {a : Option Addr} {n : Nat} {T : List (List (List (Int × Int)))} (h : Tv w a n T) (hb : Below w.heap.size w w') : Tv w' a n T := by
  obtain ⟨h1, h2⟩ := h
  refine ⟨h1, ?_⟩
  rcases h2 with h2 | ⟨b, off, ha, hlt, hc⟩
  · exact Or.inl h2
  · refine Or.inr ⟨b, off, ha, Nat.lt_of_lt_of_le hlt hb.size, fun i hi => ?_⟩
    obtain ⟨a', n', c', h3, h4⟩ := hc i hi
    exact ⟨a', n', c', (hb.cell (p := ⟨b, off + i, none⟩) hlt).trans h3, h4.below hb⟩
theorem Tv.at {w : World} {a : Option Addr} {n : Nat} {T : List (List (List (Int × Int)))} (h : Tv w a n T) (hn : 0 < n) : ∃ b off, a = some ⟨b, off, none⟩ ∧ b < w.heap.size ∧ ∀ i, i < n → ∃ a' n' c', w.cell? ⟨b, off + i, none⟩ = some (.slice a' n' c') ∧ LvS w a' n' c' (T.getD i []) := by
  rcases h.2 with e | h
  · omega
  · exact h
def TvS (w : World) (a : Option Addr) (n c : Nat) (T : List (List (List (Int × Int)))) : Prop := Tv w a n T ∧ n ≤ c ∧ c ≤ maxLen ∧ (a = none → n = 0 ∧ c = 0)
theorem TvS.below {w w' : World} {a : Option Addr} {n c : Nat} {T : List (List (List (Int × Int)))} (h : TvS w a n c T) (hb : Below w.heap.size w w') : TvS w' a n c T := ⟨h.1.below hb, h.2⟩
theorem TvS.len {w : World} {a : Option Addr} {n c : Nat} {T : List (List (List (Int × Int)))} (h : TvS w a n c T) : n ≤ 9223372036854775807 := by have h1 := h.2.1; have h2 := h.2.2.1; unfold maxLen at h2; omega
theorem OwnT.tv {w : World} {m : Nat} {v : Value} {T : List (List (List (Int × Int)))} (h : OwnT w m v T) : ∃ a n c, v = .slice a n c ∧ TvS w a n c T := by
  obtain ⟨vals, h1, h2⟩ := h
  have h0 := h1
  obtain ⟨h1, h3⟩ := h1
  rcases h3 with ⟨rfl, hn⟩ | ⟨g, cap, cur, rfl, hb, hh, hc, hm, hs, hx⟩
  · exact ⟨none, 0, 0, rfl, ⟨hn, Or.inl rfl⟩, Nat.le_refl _, by simp [maxLen], fun _ => ⟨rfl, rfl⟩⟩
  · refine ⟨_, _, cap, rfl, ⟨rfl, Or.inr ⟨g, 0, rfl, (Array.getElem?_eq_some_iff.1 hh).1, fun i hi => ?_⟩⟩, hc, hm, fun h => by simp at h⟩
    have hil : i < vals.length := by omega
    obtain ⟨u, hu⟩ : ∃ u, vals[i]? = some u := ⟨_, List.getElem?_eq_getElem hil⟩
    obtain ⟨a', n', c', rfl, r⟩ := (h2 i u hu).lv
    exact ⟨a', n', c', by rw [World.ownsRow.cellAt h0 (0 + i) (by omega), Nat.zero_add]; exact hu, r⟩

/-- The function with what it has captured cuts right rows at a level, in every later world. -/
def Cuts (fn : Nat) (cs : List Value) (w : World) : Prop := ∀ (W : World) (b off ln c : Nat) (ll : List (Int × Int)) (k : Nat), Below w.heap.size w W → Sl W (some ⟨b, off, none⟩) ln c ll → 0 < ln → M.chk ll = 0 → k ≤ 9 →
  Calls Try.prog fn (.slice (some ⟨b, off, none⟩) ln c :: .int .i64 k :: cs).toArray W fun e w' => ∃ v, e = .returned (.tuple #[v, .int .i64 0]) ∧ OwnLL w' W.heap.size v (M.cut (k : Int) ll) ∧ Below W.heap.size W w'

theorem of_none (fn : Nat) (cs : List Value) (a : Option Addr) (cap : Nat) (w : World) :
    Calls Try.prog 37 #[.slice a 0 cap, .func (.func fn) #[] cs.toArray] w fun e w' => e = .returned (.tuple #[.slice none 0 0, .int .i64 0]) ∧ Below w.heap.size w w' := by
  go_enter Try.func37, Try.ntmps37
  go_wp2
  refine wp_loop_rounds 1 ?_
  rw [rounds_succ]
  go_wp2
  go_ret2
  exact ⟨rfl, Below.refl _ _⟩

set_option maxHeartbeats 8000000 in
theorem of_some (fn : Nat) (cs : List Value) (eg : ∀ args w, (callFunc fn args).run Try.prog w = .ok (.enter fn args) w) (b0 off0 n cap : Nat) (l : List (Int × Int)) (w : World) (hcuts : Cuts fn cs w) (h : Sl w (some ⟨b0, off0, none⟩) n cap l) (hn0 : 0 < n) (h0 : M.chk l = 0) :
    Calls Try.prog 37 #[.slice (some ⟨b0, off0, none⟩) n cap, .func (.func fn) #[] cs.toArray] w fun e w' => ∃ v, e = .returned (.tuple #[v, .int .i64 0]) ∧ OwnT w' w.heap.size v (M.build l) ∧ Below w.heap.size w w' := by
  obtain ⟨i0, hi, hz0, hz1, hz2⟩ := info_parts infoLevels
  have hn40 : n ≤ 40 := by rw [← h.1.1]; exact ((M.chk_zero l).1 h0).1
  have HS : Aside (Sl w (some ⟨b0, off0, none⟩) n cap l) := h
  have HZ : Aside (M.chk l = 0) := h0
  have HCuts : Aside (Cuts fn cs w) := hcuts
  clear h h0 hcuts
  go_enter Try.func37, Try.ntmps37
  go_wp2
  go_loopg [0, 6] n (fun g vl v wr => ∃ (b off ln c k : Nat) (ll : List (Int × Int)) (T : List (List (List (Int × Int)))), vl = .slice (some ⟨b, off, none⟩) ln c ∧ ln ≤ g ∧ 0 < ln ∧ ln ≤ 40 ∧ k + M.lvl ln ≤ 6 ∧ Aside (T.length = k) ∧ Aside (Sl wr (some ⟨b, off, none⟩) ln c ll) ∧ Aside (M.chk ll = 0) ∧ Aside (OwnT wr w.heap.size v T) ∧ Aside (T ++ M.buildF ln k ll = M.build l) ∧ Below w.heap.size w wr)
  case atStart => exact ⟨b0, off0, n, cap, 0, l, [], rfl, Nat.le_refl _, hn0, hn40, by have := (M.lvl_six n).2; omega, rfl, HS.out, HZ, OwnT.nil _ _, by unfold Aside; rw [List.nil_append, M.build, HS.out.1.1], Below.refl _ _⟩
  case round =>
    obtain ⟨b, off, ln, c, k, ll, T, rfl, hlg, hln0, hln, hkl, HT, HSl, HCk, HO, HE, hbel⟩ := hrel
    have hsz := hbel.size
    have hk6 : k ≤ 5 := by have := (M.lvl_six ln).1; omega
    obtain ⟨ta, tn, tc, htv, htS⟩ := HO.out.tv
    obtain rfl : tn = k := by rw [← HT.out]; exact htS.1.1.symm
    subst htv
    have hne : ll ≠ [] := fun e => by have := HSl.out.1.1; rw [e] at this; simp at this; omega
    have HC := HCuts.out wr b off ln c ll tn hbel HSl.out hln0 HCk.out (by omega)
    obtain ⟨LL, hLL⟩ : ∃ LL, LL = M.cut (tn : Int) ll := ⟨_, rfl⟩
    rw [← hLL] at HC
    have HC1 : Aside (Calls Try.prog fn (.slice (some ⟨b, off, none⟩) ln c :: .int .i64 tn :: cs).toArray wr fun e w' => ∃ v, e = .returned (.tuple #[v, .int .i64 0]) ∧ OwnLL w' wr.heap.size v LL ∧ Below wr.heap.size wr w') := HC
    have HLL : Aside (LL = M.cut (tn : Int) ll) := hLL
    have hLp : 0 < LL.length := by rw [hLL]; exact M.cut_pos _ ll hne
    have hLh : LL.length ≤ (ln + 1) / 2 := by rw [hLL, ← HSl.out.1.1]; exact M.cut_half _ ll
    have HNe : Aside (ll ≠ []) := hne
    obtain ⟨N, hN⟩ : ∃ N, N = LL.length := ⟨_, rfl⟩
    rw [← hN] at hLp hLh
    have HN : Aside (N = LL.length) := hN
    clear HC hLL hne hN htS
    go_wp2_with fail
    refine HC1.out.mono ?_
    rintro e w2 ⟨lv, rfl, holl, b2⟩
    obtain ⟨la, ln', lc, rfl, hlv⟩ := holl.lv
    obtain rfl : ln' = N := by rw [HN.out]; exact hlv.1.1.symm
    have HOLL : Aside (OwnLL w2 w.heap.size (.slice la ln' lc) LL) := holl.mono hsz
    have HOT2 : Aside (OwnT w2 w.heap.size (.slice ta tn tc) T) := HO.out.kept (grown_none b2) (fun r e => by cases e)
    obtain ⟨vals, hrow, hel⟩ := HOT2.out
    have HRow : Aside (w2.ownsRow w.heap.size 58 1 (.slice ta tn tc) T.length vals) := hrow
    have HEl : Aside (∀ i u, vals[i]? = some u → OwnLL w2 w.heap.size u (T.getD i [])) := hel
    have hb2 : Below w.heap.size w w2 := hbel.trans (b2.mono hsz)
    clear holl hlv hrow hel b2 HC1
    by_cases h1 : ln' = 1
    · have h1b : ((ln' : Int) == 1) = true := by simp [h1]
      have EB : Aside (T ++ [LL] = M.build l) := by
        unfold Aside
        rw [← HE.out]
        obtain ⟨f, rfl⟩ : ∃ f, ln = f + 1 := ⟨ln - 1, by omega⟩
        rw [M.buildF_one f tn ll HNe.out (by rw [← HLL.out, ← HN.out, h1]), HLL.out]
      clear h1
      go_wp2_with (at_builtin; refine wpList_append_own _ rfl _ _ 22 rfl w.heap.size 58 i0 (.slice none 0 0) 1 24 Try.underlying22 hi hz0 hz1 hz2 rfl (by decide) _ T.length vals rfl (World.ownsRow.alloc HRow.out _) ⟨w2.heap.size, 0, none⟩ 1 1 [.slice la ln' lc] rfl rfl (cell_one_new _ _ _) (by simp [Value.oneCell']) (by rw [HT.out]; simp [maxLen]; omega) (by rw [HT.out]; omega) (by have := hb2.size; simp; omega) ?_)
      intro v3 w3 hown3 hgrow3 _
      obtain ⟨hot3, hll3⟩ := OwnT.append HRow.out HEl.out HOLL.out hown3 hgrow3
      have HOT3 : Aside (OwnT w3 w.heap.size v3 (M.build l)) := by unfold Aside; rw [← EB.out]; exact hot3
      have hb3 : Below w.heap.size w w3 := (hb2.alloc hb2.size _).grown hgrow3 (by have := hb2.size; simp; omega) (fun r e => (World.ownsRow.lt HRow.out r e).1)
      clear hown3 hgrow3 hot3 hll3
      go_wp2
      go_ret2
      exact ⟨_, rfl, HOT3.out, hb3⟩
    · have h1b : ((ln' : Int) == 1) = false := by simp; omega
      have HNE : Aside (∀ c ∈ LL, c ≠ []) := by unfold Aside; rw [HLL.out]; exact M.cut_ne _ ll
      have HCH : Aside (∀ c ∈ LL, M.chk c = 0) := by unfold Aside; rw [HLL.out]; exact M.cut_chk HCk.out
      have HTC : Aside (M.chk (M.tell LL) = 0) := by unfold Aside; rw [HLL.out]; exact M.tell_cut_chk HCk.out
      have EB : Aside ((T ++ [LL]) ++ M.buildF ln' (tn + 1) (M.tell LL) = M.build l) := by
        unfold Aside
        rw [← HE.out]
        obtain ⟨f, rfl⟩ : ∃ f, ln = f + 1 := ⟨ln - 1, by omega⟩
        rw [M.buildF_more f tn ll HNe.out (by rw [← HLL.out, ← HN.out]; exact h1), HLL.out, List.append_assoc, List.singleton_append, ← HLL.out]
        rw [M.buildF_fuel ln' f (tn + 1) (M.tell LL) (by rw [M.tell_length, ← HN.out]; exact Nat.le_refl _) (by rw [M.tell_length, ← HN.out]; omega)]
      have hlv1 : ln' < ln := by omega
      have hlv2 : tn + 1 + M.lvl ln' ≤ 6 := by
        have e1 := M.lvl_mono ln' ((ln + 1) / 2) hLh
        have e2 := M.lvl_step ln hln (by omega)
        omega
      go_wp2_with (at_builtin; refine wpList_append_own _ rfl _ _ 22 rfl w.heap.size 58 i0 (.slice none 0 0) 1 24 Try.underlying22 hi hz0 hz1 hz2 rfl (by decide) _ T.length vals rfl (World.ownsRow.alloc HRow.out _) ⟨w2.heap.size, 0, none⟩ 1 1 [.slice la ln' lc] rfl rfl (cell_one_new _ _ _) (by simp [Value.oneCell']) (by rw [HT.out]; simp [maxLen]; omega) (by rw [HT.out]; omega) (by have := hb2.size; simp; omega) ?_)
      intro v3 w3 hown3 hgrow3 _
      obtain ⟨hot3, hll3⟩ := OwnT.append HRow.out HEl.out HOLL.out hown3 hgrow3
      have HOT3 : Aside (OwnT w3 w.heap.size v3 (T ++ [LL])) := hot3
      have hb3 : Below w.heap.size w w3 := (hb2.alloc hb2.size _).grown hgrow3 (by have := hb2.size; simp; omega) (fun r e => (World.ownsRow.lt HRow.out r e).1)
      obtain ⟨la', ln'', lc', hle, hlv3⟩ := hll3.lv
      obtain ⟨rfl, rfl, rfl⟩ : la = la' ∧ ln' = ln'' ∧ lc = lc' := by simpa using hle
      obtain ⟨lb, lo, rfl⟩ : ∃ lb lo, la = some ⟨lb, lo, none⟩ := by
        rcases hlv3.1.2 with e | ⟨b', o', e, _⟩
        · omega
        · exact ⟨b', o', e⟩
      have HTell : Aside (Calls Try.prog 63 #[.slice (some ⟨lb, lo, none⟩) ln' lc] w3 fun e w' => ∃ v, e = .returned (.tuple #[v, .int .i64 0]) ∧ Own w' w3.heap.size v (M.tell LL) ∧ Below w3.heap.size w3 w') := tell_some lb lo ln' lc LL w3 hlv3.1 hLp (by omega) HNE.out HCH.out
      clear hown3 hgrow3 hot3 hll3 hle hlv3
      go_wp2_with fail
      refine HTell.out.mono ?_
      rintro e w4 ⟨tv, rfl, hot, b4⟩
      obtain ⟨na, nc, rfl, hnr, hn1, hn2, hn3⟩ := hot.rd
      have etl : (M.tell LL).length = ln' := by rw [M.tell_length]; exact HN.out.symm
      have HSN : Aside (Sl w4 na (M.tell LL).length nc (M.tell LL)) := ⟨hnr, hn1, hn2, hn3⟩
      rw [etl] at HSN
      have etl' : (Value.slice na (M.tell LL).length nc) = .slice na ln' nc := by rw [etl]
      rw [etl']
      obtain ⟨nb, no, rfl⟩ : ∃ nb no, na = some ⟨nb, no, none⟩ := by
        rcases HSN.out.1.cases with ⟨e, _⟩ | ⟨b', o', e, _⟩
        · omega
        · exact ⟨b', o', e⟩
      have HOT4 : Aside (OwnT w4 w.heap.size v3 (T ++ [LL])) := HOT3.out.kept (grown_none b4) (fun r e => by cases e)
      have hb4 : Below w.heap.size w w4 := hb3.trans (b4.mono hb3.size)
      have HTL : Aside ((T ++ [LL]).length = tn + 1) := by unfold Aside; rw [List.length_append, HT.out]; rfl
      clear hot hnr hn1 hn2 hn3 etl etl' HTell b4 h1
      go_wp2
      go_roundg ln'
      case measure => omega
      case rel => exact ⟨nb, no, ln', nc, tn + 1, M.tell LL, T ++ [LL], rfl, Nat.le_refl _, hLp, by omega, hlv2, HTL, HSN, HTC, HOT4, EB, hb4⟩

theorem of_any (fn : Nat) (cs : List Value) (eg : ∀ args w, (callFunc fn args).run Try.prog w = .ok (.enter fn args) w) (a : Option Addr) (n cap : Nat) (l : List (Int × Int)) (w : World) (hcuts : Cuts fn cs w) (h : Sl w a n cap l) (h0 : M.chk l = 0) :
    Calls Try.prog 37 #[.slice a n cap, .func (.func fn) #[] cs.toArray] w fun e w' => ∃ v, e = .returned (.tuple #[v, .int .i64 0]) ∧ OwnT w' w.heap.size v (M.build l) ∧ Below w.heap.size w w' := by
  rcases h.1.cases with ⟨rfl, rfl⟩ | ⟨b, off, rfl, hn, _⟩
  · refine (of_none fn cs a cap w).mono ?_
    rintro e w' ⟨rfl, hb⟩
    exact ⟨_, rfl, OwnT.nil _ _, hb⟩
  · exact of_some fn cs eg b off n cap l w hcuts h hn h0
end Go.Proofs.Ytcgpgflnihjpiac
