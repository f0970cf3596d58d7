/- chunk.Cut, whole; levels in memory. -/
import Derived.Test.YtcgpgflnihjpiacCut
namespace Go.Proofs.Ytcgpgflnihjpiac
open Go.RowKit Go.Shelf
attribute [local go_sem] Oper.semAt_some

set_option maxRecDepth 100000 in
set_option maxHeartbeats 1000000 in
theorem chunks1_none (n0 lp p q cap : Nat) (a : Option Addr) (J Jx : List Empty → World → Prop) (W : World) (hp : W.cell? ⟨p, 0, none⟩ = some (.slice a 0 cap)) (h0 : J [] W) :
    CallsIn Fence.wide n0 Try.prog 86 #[.func (.yield lp) #[] #[], .pointer (some ⟨p, 0, none⟩), .pointer (some ⟨q, 0, none⟩)] W fun e W' => (∃ v, e = .returned v) ∧
      ((∃ xs : List Empty, xs = [] ∧ J xs W') ∨ (∃ pre, True ∧ Jx pre W')) := by
  refine callsIn_of_wp Try.func86 rfl trivial ?_ rfl
  simp only [Try.ntmps86, List.size_toArray, List.length_cons, List.length_nil, Nat.reduceAdd, Nat.reduceSub, Array.replicate_succ, Array.replicate_zero, List.push_toArray, List.append_toArray, List.nil_append, List.cons_append]
  have HJ0 : Aside (J [] W) := h0
  clear h0
  gi_wp2
  gi_loopw [4] (fun v wr => v = .slice a 0 cap ∧ Aside (J [] wr)) (fun _ _ => 0)
  case atStart => exact ⟨rfl, HJ0⟩
  case round =>
    obtain ⟨rfl, HJ'⟩ := hrel
    gi_wp2
    go_end0
    exact ⟨⟨_, rfl⟩, .inl ⟨[], rfl, HJ'.out⟩⟩

set_option maxRecDepth 100000 in
set_option maxHeartbeats 4000000 in
theorem cut_none (a : Option Addr) (cap : Nat) (level : Int) (w : World) (hl0 : 0 ≤ level) (hl1 : level ≤ 9) :
    Calls Try.prog 38 #[.slice a 0 cap, .int .i64 level] w fun e w' => e = .returned (.tuple #[.slice none 0 0, .int .i64 0]) ∧ Below w.heap.size w w' := by
  refine (callsIn_wide (n := 9)).1 ?_
  refine callsIn_of_wp_marks Try.func38 rfl trivial ?_ rfl
  simp only [Try.ntmps38, List.size_toArray, List.length_cons, List.length_nil, Nat.reduceAdd, Nat.reduceSub, Array.replicate_succ, Array.replicate_zero, List.push_toArray, List.append_toArray, List.nil_append, List.cons_append]
  gi_wp2_with (first | (refine ⟨trivial, ?_⟩; gi_at_call 36; refine (callsIn_wide.2 (check_none a cap _)).mono ?_; rintro e w1 ⟨rfl, rfl⟩) | (refine ⟨trivial, ?_⟩; gi_at_call 64; refine (callsIn_wide.2 (level_yes level _ hl0 hl1)).mono ?_; rintro e w1' ⟨rfl, rfl⟩) | (refine ⟨trivial, ?_⟩; gi_at_call 65; refine (callsIn_wide.2 (chunks_any a 0 cap level _)).mono ?_; rintro e w2 ⟨rfl, rfl⟩))
  obtain ⟨B, hBe⟩ : ∃ B, B = w1'.heap.size := ⟨_, rfl⟩
  obtain ⟨W0, hW0⟩ : ∃ W0, W0 = ((w1'.alloc (.cells #[.slice none 0 0] 58)).alloc (.cells #[.slice a 0 cap] 32)).alloc (.cells #[.int .i64 level] 3) := ⟨_, rfl⟩
  have hsz : W0.heap.size = B + 3 := by rw [hW0, hBe]; simp
  have hw0 : Below B w1' W0 := by rw [hW0, hBe]; exact (((Below.refl _ _).alloc (Nat.le_refl _) _).alloc (by simp) _).alloc (by simp; omega) _
  have hbox : Boxed W0 B 58 (.slice none 0 0) := by rw [hW0, hBe]; exact ((Boxed.new w1' _ _).alloc _).alloc _
  have hcp : W0.cell? ⟨B + 1, 0, none⟩ = some (.slice a 0 cap) := by rw [hW0, hBe]; simp [go_sem]
  have hbe : w1'.heap.size ≤ B := by omega
  have hbw : Below w1'.heap.size w1' W0 := hw0.mono hbe
  rw [← hW0, ← hBe]
  clear hW0 hBe
  refine wpIn_rangeFunc_ownG (α := Empty) (encs := fun _ => #[]) (S := fun xs => xs = []) (Sp := fun _ => True) (N := 0) (w0 := W0) rfl (by omega) (gf := 86) (lb := #[.pointer (some ⟨B + 1, 0, none⟩), .pointer (some ⟨B + 1 + 1, 0, none⟩)]) rfl trivial (enters_of Try.func86 (by kernel_rfl) rfl)
    (fun lp J Jx W hW _ _ _ h0 => chunks1_none 8 lp (B + 1) (B + 1 + 1) cap a J Jx W ((hW.cell (p := ⟨B + 1, 0, none⟩) (by show B + 1 < _; omega)).trans hcp) h0) (Kp := Below B) belowK_t (belowK_b (by omega)) (Below.refl _ _) (fun x => x.elim)
    (fun _ W => Boxed W B 58 (.slice none 0 0) ∧ Below B W0 W)
    (fun _ _ _ => False) ?hI (fun _ _ _ _ _ hs _ _ => hs) ⟨hbox, Below.refl _ _⟩
    (fun x => x.elim) ?assign ?body ?done ?stop
  case hI =>
    rintro s X Y row ⟨hv, hk⟩ hg hr
    refine ⟨hv.kept hg (fun e => ?_), hk.trans ((Below.refl _ _).grown hg (by have := hk.size; omega) (fun k e => by have := (hr k e).1; omega))⟩
    obtain ⟨_, o, ho, hc⟩ := hr B e.symm
    rw [show X.heap[B]? = _ from hv] at ho; cases ho; cases hc
  case assign => intro lp x; exact x.elim
  case body => intro lp pre x; exact x.elim
  case done =>
    rintro D ys W hD hys ⟨hv, hk⟩ hKd
    have hcv := hv.cell
    gi_wp2
    refine ⟨by simp, .inl ⟨_, _, rfl, run_takeDeferred hKd, ?_⟩⟩
    refine ⟨.tuple #[.slice none 0 0, .int .i64 0], by simp [results, Try.results38, go_sem], rfl, ?_⟩
    exact (hbw.trans (hk.mono hbe)).trans (belowK_b (w := w1') (Nat.le_refl _) W D _ _ (by have := hbw.size; omega) hKd rfl rfl)
  case stop =>
    rintro D c pre W _ _ h _
    exact h.elim

theorem cut_bad (a : Option Addr) (n cap : Nat) (l : List (Int × Int)) (level : Int) (w : World) (h : Rd w a n l) (hm : n ≤ 9223372036854775807) (hb : M.chk l ≠ 0) :
    Calls Try.prog 38 #[.slice a n cap, .int .i64 level] w fun e w' => e = .returned (.tuple #[.slice none 0 0, .int .i64 (M.chk l)]) ∧ Below w.heap.size w w' := by
  have H := check_any a n cap l w h hm
  obtain ⟨c, hc⟩ : ∃ c, c = M.chk l := ⟨_, rfl⟩
  rw [← hc] at H hb ⊢
  clear hc h
  have hne : (c != 0) = true := by simp [hb]
  clear hb
  have HH : Hid (Calls Try.prog 36 #[.slice a n cap] w fun e w' => e = .returned (.int .i64 c) ∧ Below w.heap.size w w') := H
  clear H
  go_enter Try.func38, Try.ntmps38
  go_wp2_with (go_at_call 36; refine HH.out.mono ?_; rintro e w' ⟨rfl, hb1⟩)
  go_ret2
  exact ⟨rfl, hb1⟩

theorem cut_range (a : Option Addr) (n cap : Nat) (l : List (Int × Int)) (level : Int) (w : World) (h : Rd w a n l) (hm : n ≤ 9223372036854775807) (hb : M.chk l = 0) (hl : level < 0 ∨ 9 < level) :
    Calls Try.prog 38 #[.slice a n cap, .int .i64 level] w fun e w' => e = .returned (.tuple #[.slice none 0 0, .int .i64 3]) ∧ Below w.heap.size w w' := by
  have H := check_any a n cap l w h hm
  rw [hb] at H
  clear h hb
  have HH : Hid (Calls Try.prog 36 #[.slice a n cap] w fun e w' => e = .returned (.int .i64 0) ∧ Below w.heap.size w w') := H
  have HL : Hid (level < 0 ∨ 9 < level) := hl
  clear H hl
  go_enter Try.func38, Try.ntmps38
  go_wp2_with (first | (go_at_call 36; refine HH.out.mono ?_; rintro e w' ⟨rfl, hb1⟩) | (go_at_call 64; refine (level_no _ _ HL.out).mono ?_; rintro e w' ⟨rfl, rfl⟩))
  go_ret2
  exact ⟨rfl, hb1⟩

/-- A level: chunks side by side in memory. -/
def Lv (w : World) (a : Option Addr) (n : Nat) (LL : List (List (Int × Int))) : Prop :=
  LL.length = n ∧ (n = 0 ∨ ∃ b off, a = some ⟨b, off, none⟩ ∧ b < w.heap.size ∧ ∀ i, i < n → ∃ a' n' c', w.cell? ⟨b, off + i, none⟩ = some (.slice a' n' c') ∧ Sl w a' n' c' (LL.getD i []))
theorem Sl.below {w w' : World} {a : Option Addr} {n cap : Nat} {l : List (Int × Int)} (h : Sl w a n cap l) (hb : Below w.heap.size w w') : Sl w' a n cap l := ⟨h.1.below hb (Nat.le_refl _), h.2⟩
theorem Sl.len {w : World} {a : Option Addr} {n cap : Nat} {l : List (Int × Int)} (h : Sl w a n cap l) : n ≤ 9223372036854775807 := by have h1 := h.2.1; have h2 := h.2.2.1; unfold maxLen at h2; omega
theorem Lv.below {w w' : World} {a : Option Addr} {n : Nat} {LL : List (List (Int × Int))} (h : Lv w a n LL) (hb : Below w.heap.size w w') : Lv w' a n LL := by
  obtain ⟨h1, h2⟩ := h
  refine ⟨h1, ?_⟩
  rcases h2 with h2 | ⟨b, off, ha, hlt, hc⟩
  · exact Or.inl h2
  · refine Or.inr ⟨b, off, ha, Nat.lt_of_lt_of_le hlt hb.size, fun i hi => ?_⟩
    obtain ⟨a', n', c', h3, h4⟩ := hc i hi
    exact ⟨a', n', c', (hb.cell (p := ⟨b, off + i, none⟩) hlt).trans h3, h4.below hb⟩
theorem OwnLL.lv {w : World} {m : Nat} {v : Value} {LL : List (List (Int × Int))} (h : OwnLL w m v LL) : ∃ a n cap, v = .slice a n cap ∧ Lv w a n LL ∧ n ≤ cap ∧ cap ≤ maxLen ∧ (a = none → n = 0 ∧ cap = 0) := by
  obtain ⟨vals, h1, h2⟩ := h
  have h0 := h1
  obtain ⟨h1, h3⟩ := h1
  rcases h3 with ⟨rfl, hn⟩ | ⟨g, cap, cur, rfl, hb, hh, hc, hm, hs, hx⟩
  · exact ⟨none, 0, 0, rfl, ⟨hn, Or.inl rfl⟩, Nat.le_refl _, by simp [maxLen], fun _ => ⟨rfl, rfl⟩⟩
  · refine ⟨_, _, cap, rfl, ⟨rfl, Or.inr ⟨g, 0, rfl, (Array.getElem?_eq_some_iff.1 hh).1, fun i hi => ?_⟩⟩, hc, hm, fun h => by simp at h⟩
    have hil : i < vals.length := by omega
    obtain ⟨u, hu⟩ : ∃ u, vals[i]? = some u := ⟨_, List.getElem?_eq_getElem hil⟩
    obtain ⟨a', c', rfl, r1, r2, r3, r4⟩ := (h2 i u hu).rd
    exact ⟨a', _, c', by rw [World.ownsRow.cellAt h0 (0 + i) (by omega), Nat.zero_add]; exact hu, r1, r2, r3, r4⟩

/-- What a call hands back that answers a level and an error. -/
def HandsL (w w' : World) (LL : List (List (Int × Int))) (c : Int) (e : Ending) : Prop := ∃ a n cap, e = .returned (.tuple #[.slice a n cap, .int .i64 c]) ∧ Lv w' a n LL ∧ n ≤ cap ∧ cap ≤ maxLen ∧ (a = none → n = 0 ∧ cap = 0) ∧ Below w.heap.size w w'
theorem HandsL.none {w w' : World} (c : Int) (hb : Below w.heap.size w w') : HandsL w w' [] c (.returned (.tuple #[.slice none 0 0, .int .i64 c])) :=
  ⟨_, 0, 0, rfl, ⟨rfl, Or.inl rfl⟩, Nat.le_refl _, by simp [maxLen], fun _ => ⟨rfl, rfl⟩, hb⟩

theorem cut_any (a : Option Addr) (n cap : Nat) (l : List (Int × Int)) (level : Int) (w : World) (h : Sl w a n cap l) :
    Calls Try.prog 38 #[.slice a n cap, .int .i64 level] w fun e w' => HandsL w w' (M.cutV l level) (M.cutE l level) e := by
  by_cases h0 : M.chk l = 0
  · by_cases hl : level < 0 ∨ 9 < level
    · have e1 := M.cutE_range h0 hl
      rw [M.cutV_no (by omega), e1]
      refine (cut_range a n cap l level w h.1 h.len h0 hl).mono ?_
      rintro e w' ⟨rfl, hb⟩
      exact HandsL.none 3 hb
    · have e1 := M.cutE_ok h0 (level := level) (by omega) (by omega)
      rw [M.cutV_ok e1, e1]
      rcases h.1.cases with ⟨rfl, rfl⟩ | ⟨b, off, rfl, hn, hl', hB, hc⟩
      · refine (cut_none a cap level w (by omega) (by omega)).mono ?_
        rintro e w' ⟨rfl, hb⟩
        exact HandsL.none 0 hb
      · refine (cut_some b off n cap l level w h.1 h.2.1 h.2.2.1 h0 (by omega) (by omega) hB).mono ?_
        rintro e w' ⟨v, rfl, ho, hb⟩
        obtain ⟨a', n', c', rfl, r1, r2, r3, r4⟩ := ho.lv
        exact ⟨a', n', c', rfl, r1, r2, r3, r4, hb⟩
  · have e1 := M.cutE_bad (level := level) h0
    rw [M.cutV_no (by omega), e1]
    refine (cut_bad a n cap l level w h.1 h.len h0).mono ?_
    rintro e w' ⟨rfl, hb⟩
    exact HandsL.none _ hb
end Go.Proofs.Ytcgpgflnihjpiac
