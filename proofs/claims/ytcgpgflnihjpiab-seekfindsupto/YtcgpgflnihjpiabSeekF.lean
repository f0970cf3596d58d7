/- seek.Find. -/
import Derived.Test.YtcgpgflnihjpiabBack
import Derived.Test.YtcgpgflnihjpiabFirstUp
import Derived.Test.YtcgpgflnihjpiabFindA
import Derived.Sort.QuietIn
namespace Go.Proofs.Ytcgpgflnihjpiab
open Go.RowKit Go.Shelf
attribute [local go_sem] Oper.semAt_some

def looksV (T : List (List (List (Int × Int)))) (key : Int) : Int := if T ≠ [] ∧ key ≤ M.lastK (flat T) then (T.length : Int) else 0

theorem seekF_bad (a : Option Addr) (n cap : Nat) (T : List (List (List (Int × Int)))) (key : Int) (w : World) (hT : TvS w a n cap T) (hbig : Big T) (hE : treeE T = 1) :
    Calls Try.prog 22 #[.slice a n cap, .int .i64 key] w fun e w' => e = .returned (.tuple #[.int .i64 0, .int .i64 0, .int .i64 1]) ∧ Below w.heap.size w w' := by
  have hb0 : Below w.heap.size w (w.alloc (.cells #[.int .i64 key] 3)) := (Below.refl _ _).alloc (Nat.le_refl _) _
  have HC := tcheck_any a n cap T _ (hT.below hb0) hbig
  rw [hE] at HC
  obtain ⟨W0, hW0⟩ : ∃ W0, W0 = w.alloc (.cells #[.int .i64 key] 3) := ⟨_, rfl⟩
  rw [← hW0] at HC hb0
  have HW0 : Aside (W0 = w.alloc (.cells #[.int .i64 key] 3)) := hW0
  have HC1 : Aside (Calls Try.prog 18 #[.slice a n cap] W0 fun e w' => e = .returned (.int .i64 1) ∧ Below W0.heap.size W0 w') := HC
  clear HC hT hbig hE hW0
  go_enter Try.func22, Try.ntmps22
  go_wp2_with fail
  rw [← HW0.out]
  refine HC1.out.mono ?_
  rintro e w1 ⟨rfl, b1⟩
  have q1 := below2 hb0 b1
  go_wp2
  go_ret3
  exact ⟨rfl, q1⟩

theorem seekF_range (a : Option Addr) (n cap : Nat) (T : List (List (List (Int × Int)))) (key : Int) (w : World) (hT : TvS w a n cap T) (hbig : Big T) (hE : treeE T = 0) (hk : key < 0 ∨ 99 < key) :
    Calls Try.prog 22 #[.slice a n cap, .int .i64 key] w fun e w' => e = .returned (.tuple #[.int .i64 0, .int .i64 0, .int .i64 3]) ∧ Below w.heap.size w w' := by
  have hb0 : Below w.heap.size w (w.alloc (.cells #[.int .i64 key] 3)) := (Below.refl _ _).alloc (Nat.le_refl _) _
  have HC := tcheck_any a n cap T _ (hT.below hb0) hbig
  rw [hE] at HC
  obtain ⟨W0, hW0⟩ : ∃ W0, W0 = w.alloc (.cells #[.int .i64 key] 3) := ⟨_, rfl⟩
  have hc0 : W0.cell? ⟨w.heap.size, 0, none⟩ = some (.int .i64 key) := by rw [hW0]; simp [go_sem]
  have hs0 : w.heap.size < W0.heap.size := by rw [hW0]; simp
  rw [← hW0] at HC hb0
  have HW0 : Aside (W0 = w.alloc (.cells #[.int .i64 key] 3)) := hW0
  have HC1 : Aside (Calls Try.prog 18 #[.slice a n cap] W0 fun e w' => e = .returned (.int .i64 0) ∧ Below W0.heap.size W0 w') := HC
  clear HC hT hbig hE hW0
  rcases hk with hk | hk
  · have hk1 : decide (key < 0) = true := by simp [hk]
    go_enter Try.func22, Try.ntmps22
    go_wp2_with fail
    rw [← HW0.out]
    refine HC1.out.mono ?_
    rintro e w1 ⟨rfl, b1⟩
    have hc1 : w1.cell? ⟨w.heap.size, 0, none⟩ = some (.int .i64 key) := (b1.cell (p := ⟨w.heap.size, 0, none⟩) hs0).trans hc0
    have q1 := below2 hb0 b1
    go_wp2
    go_ret3
    exact ⟨rfl, q1⟩
  · have hk0 : decide (key < 0) = false := by simp; omega
    have hk1 : decide (99 < key) = true := by simp [hk]
    go_enter Try.func22, Try.ntmps22
    go_wp2_with fail
    rw [← HW0.out]
    refine HC1.out.mono ?_
    rintro e w1 ⟨rfl, b1⟩
    have hc1 : w1.cell? ⟨w.heap.size, 0, none⟩ = some (.int .i64 key) := (b1.cell (p := ⟨w.heap.size, 0, none⟩) hs0).trans hc0
    have q1 := below2 hb0 b1
    go_wp2
    go_ret3
    exact ⟨rfl, q1⟩

/-- What stands between two rounds of the loop of Find: looks, found. -/
def SI (w : World) (B : Nat) (T : List (List (List (Int × Int)))) (key : Int) (pre : List Nat) (W : World) : Prop :=
  Boxed W B 3 (.int .i64 pre.length) ∧ (∃ fa fn fc fr, Boxed W (B + 1) 22 (.slice fa fn fc) ∧ Sl w fa fn fc fr ∧ (match pre.getLast? with | none => fr = [] | some i => key ≤ M.lastK (flat T) ∧ ∃ k, M.FU (T.getD i []) key k ∧ k < (T.getD i []).length ∧ fr = (T.getD i []).getD k [])) ∧
    Boxed W w.heap.size 3 (.int .i64 key) ∧ Below w.heap.size w W ∧ B + 3 ≤ W.heap.size
theorem SI.from {w : World} {B : Nat} {T : List (List (List (Int × Int)))} {key : Int} {pre : List Nat} {X Y : World} {row : Option Nat} (hB : w.heap.size < B) (h : SI w B T key pre X) (hg : X.grownBy Y row) (hr : ∀ k, row = some k → B + 3 ≤ k ∧ ∃ o : Obj, X.heap[k]? = some o ∧ o.isCells = false) : SI w B T key pre Y := by
  obtain ⟨h1, ⟨fa, fn, fc, fr, h2, h3, h4⟩, h5, h6, h7⟩ := h
  refine ⟨h1.kept hg (fun e => ?_), ⟨fa, fn, fc, fr, h2.kept hg (fun e => ?_), h3, h4⟩, h5.kept hg (fun e => ?_), h6.grown hg (by omega) (fun k e => ?_), Nat.le_trans h7 hg.size⟩
  · have := (hr _ e.symm).1; omega
  · have := (hr _ e.symm).1; omega
  · have := (hr _ e.symm).1; omega
  · have := (hr _ e).1; omega

theorem keeps_below {B : Nat} {X Y : World} (hb : Below X.heap.size X Y) : KeepsFrom B X Y := ⟨hb.size, fun k _ _ hk _ => (hb.block k (Array.getElem?_eq_some_iff.1 hk).1).trans hk⟩
theorem SI.put {w W W2 : World} {B : Nat} {key : Int} {u1 u2 v1 v2 : Value} (hwB : w.heap.size < B) (h1 : Boxed W B 3 u1) (h2 : Boxed W (B + 1) 22 u2) (hk : Boxed W w.heap.size 3 (.int .i64 key)) (hbel : Below w.heap.size w W) (hWB : B + 3 ≤ W.heap.size) (b2 : Below W.heap.size W W2) :
    KeepsFrom (B + 3) W ((W2.setCell ⟨B + 1, 0, none⟩ v2).setCell ⟨B, 0, none⟩ v1) ∧ KeepP w.heap.size (B + 1 + 1) W ((W2.setCell ⟨B + 1, 0, none⟩ v2).setCell ⟨B, 0, none⟩ v1) ∧ Boxed ((W2.setCell ⟨B + 1, 0, none⟩ v2).setCell ⟨B, 0, none⟩ v1) B 3 v1 ∧ Boxed ((W2.setCell ⟨B + 1, 0, none⟩ v2).setCell ⟨B, 0, none⟩ v1) (B + 1) 22 v2 ∧
      Boxed ((W2.setCell ⟨B + 1, 0, none⟩ v2).setCell ⟨B, 0, none⟩ v1) w.heap.size 3 (.int .i64 key) ∧ Below w.heap.size w ((W2.setCell ⟨B + 1, 0, none⟩ v2).setCell ⟨B, 0, none⟩ v1) ∧ B + 3 ≤ ((W2.setCell ⟨B + 1, 0, none⟩ v2).setCell ⟨B, 0, none⟩ v1).heap.size := by
  have k1 : Boxed W2 B 3 u1 := (b2.block B (by omega)).trans h1
  have k2 : Boxed W2 (B + 1) 22 u2 := (b2.block (B + 1) (by omega)).trans h2
  have kk : Boxed W2 w.heap.size 3 (.int .i64 key) := (b2.block w.heap.size (by omega)).trans hk
  have g1 := grownBy_setCell' W2 (B + 1) v2
  have g2 := grownBy_setCell' (W2.setCell ⟨B + 1, 0, none⟩ v2) B v1
  have s0 := b2.size
  have s1 := g1.size
  have s2 := g2.size
  have c1 : Below B W2 (W2.setCell ⟨B + 1, 0, none⟩ v2) := (Below.refl _ _).grown g1 (by omega) (fun k e => by cases e; omega)
  have c2 : Below B (W2.setCell ⟨B + 1, 0, none⟩ v2) ((W2.setCell ⟨B + 1, 0, none⟩ v2).setCell ⟨B, 0, none⟩ v1) := (Below.refl _ _).grown g2 (by omega) (fun k e => by cases e; omega)
  have d1 := k1.other (B' := B + 1) (by omega) v2
  have hb : Below w.heap.size W ((W2.setCell ⟨B + 1, 0, none⟩ v2).setCell ⟨B, 0, none⟩ v1) := (b2.mono (by omega)).trans ((c1.trans c2).mono (by omega))
  refine ⟨((keeps_below b2).trans (keeps_grown g1 (fun r e => by cases e; exact ⟨_, k2, rfl⟩))).trans (keeps_grown g2 (fun r e => by cases e; exact ⟨_, d1, rfl⟩)), ⟨hb, ?_⟩, d1.set v1, (k2.set v2).other (by omega) v1, (kk.other (by omega) v2).other (by omega) v1, hbel.trans hb, by omega⟩
  rw [Below.heap_setCell _ _ _ (B + 1 + 1) (by show B + 1 + 1 ≠ B; omega), Below.heap_setCell _ _ _ (B + 1 + 1) (by show B + 1 + 1 ≠ B + 1; omega)]
  exact b2.block (B + 1 + 1) (by omega)

theorem down_last (n : Nat) (h : 0 < n) : (down n).getLast? = some 0 := by
  unfold down
  rw [List.getLast?_reverse]
  cases n with
  | zero => omega
  | succ n => rw [List.range_succ_eq_map]; rfl
theorem SI.fin {w W : World} {B n : Nat} {T : List (List (List (Int × Int)))} {key v lk : Int} {pre : List Nat} (hv : v = M.find key (flat T)) (hlk : lk = looksV T key) (hch : M.chk (flat T) = 0)
    (hlev : ∀ L ∈ T, L ≠ [] ∧ M.Ok L.flatten ∧ M.lastK L.flatten = M.lastK (flat T) ∧ L.length ≤ 40 ∧ ∀ c ∈ L, c ≠ [] ∧ M.chk c = 0) (hn : T.length = n) (h : SI w B T key pre W) (hpre : pre = down n ∨ (pre = [] ∧ M.lastK (flat T) < key)) :
    ∃ fa fn fc fr, Boxed W (B + 1) 22 (.slice fa fn fc) ∧ Sl w fa fn fc fr ∧ M.chk fr = 0 ∧ M.find key fr = v ∧ Boxed W B 3 (.int .i64 lk) ∧ Boxed W w.heap.size 3 (.int .i64 key) ∧ Below w.heap.size w W ∧ B + 3 ≤ W.heap.size := by
  obtain ⟨h1, ⟨fa, fn, fc, fr, h2, h3, h4⟩, h5, h6, h7⟩ := h
  have nilc : M.chk ([] : List (Int × Int)) = 0 := rfl
  rcases hpre with rfl | ⟨rfl, hlt⟩
  · by_cases hn0 : n = 0
    · subst hn0
      have e : T = [] := List.eq_nil_of_length_eq_zero hn
      have e2 : fr = [] := h4
      have el : lk = 0 := by rw [hlk, looksV, if_neg (by simp [e])]
      subst e2
      refine ⟨fa, fn, fc, [], h2, h3, nilc, ?_, by rw [el]; exact h1, h5, h6, h7⟩
      rw [hv, e]; rfl
    · rw [down_last n (by omega)] at h4
      obtain ⟨hkl, k, f1, f2, f3⟩ := h4
      have hm : T.getD 0 [] ∈ T := getD_memT T [] 0 (by omega)
      obtain ⟨y1, y2, y3, y4, y5⟩ := hlev _ hm
      have hT : T ≠ [] := fun e => by rw [e] at hn; simp at hn; omega
      have el : lk = (down n).length := by rw [hlk, looksV, if_pos ⟨hT, hkl⟩, hn]; simp [down]
      refine ⟨fa, fn, fc, fr, h2, h3, ?_, ?_, by rw [el]; exact h1, h5, h6, h7⟩
      · rw [f3]; exact (y5 _ (M.at_mem f2)).2
      · rw [f3, f1.find y2 (fun c hc => (y5 c hc).1) f2, hv]; rfl
  · have e2 : fr = [] := h4
    subst e2
    have el : lk = 0 := by rw [hlk, looksV, if_neg (fun h => by have := h.2; omega)]
    refine ⟨fa, fn, fc, [], h2, h3, nilc, ?_, by rw [el]; exact h1, h5, h6, h7⟩
    rw [hv, M.find_above _ ((M.chk_zero _).1 hch).2 key hlt]; rfl

set_option maxRecDepth 100000 in
set_option maxHeartbeats 8000000 in
theorem seekF_ok (a : Option Addr) (n cap : Nat) (T : List (List (List (Int × Int)))) (key : Int) (w : World) (hT : TvS w a n cap T) (hbig : Big T) (hE : treeE T = 0) (hk : 0 ≤ key) (hk2 : key ≤ 99) :
    Calls Try.prog 22 #[.slice a n cap, .int .i64 key] w fun e w' => e = .returned (.tuple #[.int .i64 (M.find key (flat T)), .int .i64 (looksV T key), .int .i64 0]) ∧ Below w.heap.size w w' := by
  have hb0 : Below w.heap.size w (w.alloc (.cells #[.int .i64 key] 3)) := (Below.refl _ _).alloc (Nat.le_refl _) _
  have HC := tcheck_any a n cap T _ (hT.below hb0) hbig
  rw [hE] at HC
  obtain ⟨W0, hW0⟩ : ∃ W0, W0 = w.alloc (.cells #[.int .i64 key] 3) := ⟨_, rfl⟩
  have hc0 : Boxed W0 w.heap.size 3 (.int .i64 key) := by rw [hW0]; exact Boxed.new _ _ _
  have hs0 : w.heap.size < W0.heap.size := by rw [hW0]; simp
  rw [← hW0] at HC hb0
  have HW0 : Aside (W0 = w.alloc (.cells #[.int .i64 key] 3)) := hW0
  have HC1 : Aside (Calls Try.prog 18 #[.slice a n cap] W0 fun e w' => e = .returned (.int .i64 0) ∧ Below W0.heap.size W0 w' ∧ w'.cell? ⟨w.heap.size, 0, none⟩ = some (.int .i64 key)) := HC.mono fun e w' ⟨h1, h2⟩ => ⟨h1, h2, (h2.cell (p := ⟨w.heap.size, 0, none⟩) hs0).trans hc0.cell⟩
  obtain ⟨v, hv⟩ : ∃ v, v = M.find key (flat T) := ⟨_, rfl⟩
  obtain ⟨lk, hlk⟩ : ∃ lk, lk = looksV T key := ⟨_, rfl⟩
  rw [← hv, ← hlk]
  have hk0 : decide (key < 0) = false := by simp; omega
  have hk1 : decide (99 < key) = false := by simp; omega
  clear HC hW0
  refine (callsIn_wide (n := 9)).1 ?_
  refine callsIn_of_wp_marks Try.func22 rfl trivial ?_ rfl
  simp only [Try.ntmps22, List.size_toArray, List.length_cons, List.length_nil, Nat.reduceAdd, Nat.reduceSub, Array.replicate_succ, Array.replicate_zero, List.push_toArray, List.append_toArray, List.nil_append, List.cons_append]
  gi_wp2_with (first | (refine ⟨trivial, ?_⟩; gi_at_call 18; rw [← HW0.out]; refine (callsIn_wide.2 HC1.out).mono ?_; rintro e w1 ⟨rfl, b1, hc1⟩) | (refine ⟨trivial, ?_⟩; gi_at_call 39; refine (callsIn_wide.2 (back_any a n cap _)).mono ?_; rintro e w2 ⟨rfl, rfl⟩))
  obtain ⟨B, hBe⟩ : ∃ B, B = w1.heap.size := ⟨_, rfl⟩
  obtain ⟨X0, hX0⟩ : ∃ X0, X0 = ((w1.alloc (.cells #[.int .i64 0] 3)).alloc (.cells #[.slice none 0 0] 22)).alloc (.cells #[.slice a n cap] 23) := ⟨_, rfl⟩
  have hsz : X0.heap.size = B + 3 := by rw [hX0, hBe]; simp
  have hw1 : Below B w1 X0 := by rw [hX0, hBe]; exact (((Below.refl _ _).alloc (Nat.le_refl _) _).alloc (by simp) _).alloc (by simp; omega) _
  have hbx1 : Boxed X0 B 3 (.int .i64 0) := by rw [hX0, hBe]; exact ((Boxed.new w1 _ _).alloc _).alloc _
  have hbx2 : Boxed X0 (B + 1) 22 (.slice none 0 0) := by rw [hX0, hBe]; have := ((Boxed.new (w1.alloc (.cells #[.int .i64 0] 3)) 22 (.slice none 0 0)).alloc (.cells #[.slice a n cap] 23)); simpa using this
  have hcp : X0.cell? ⟨B + 1 + 1, 0, none⟩ = some (.slice a n cap) := by rw [hX0, hBe]; simp [go_sem]
  have hwB : w.heap.size < B := by rw [hBe]; exact Nat.lt_of_lt_of_le hs0 b1.size
  have hbw : Below w.heap.size w X0 := (below2 hb0 b1).trans (hw1.mono (by omega))
  have hbxk : Boxed X0 w.heap.size 3 (.int .i64 key) := by
    have h1 : w1.heap[w.heap.size]? = some (.cells #[.int .i64 key] 3 (0, 0)) := (b1.block w.heap.size hs0).trans hc0
    exact (hw1.block w.heap.size hwB).trans h1
  rw [← hX0, ← hBe]
  obtain ⟨hch, hTb⟩ := treeE_ok hE
  obtain ⟨L1, L2, L3, L4, L5, L6⟩ := build_like (flat T) hch
  have LS := M.build_lasts (flat T) hch
  rw [← hTb] at L1 L2 L3 L4 L5 L6 LS
  have hn6 : n ≤ 6 := by rw [← hT.1.1]; exact L6
  have HT : Aside (TvS w a n cap T) := hT
  have HLev : Aside (∀ L ∈ T, L ≠ [] ∧ M.Ok L.flatten ∧ M.lastK L.flatten = M.lastK (flat T) ∧ L.length ≤ 40 ∧ ∀ c ∈ L, c ≠ [] ∧ M.chk c = 0) := fun L hL => ⟨(LS L hL).1, (LS L hL).2.1, (LS L hL).2.2, (L4 L hL).1, (L4 L hL).2⟩
  have HV : Aside (v = M.find key (flat T)) := hv
  have HLK : Aside (lk = looksV T key) := hlk
  have HCh : Aside (M.chk (flat T) = 0) := hch
  clear hX0 hBe b1 hc1 HC1 hT hbig hE hv hlk hch hTb L1 L2 L3 L4 L5 LS
  refine wpIn_rangeFunc_ownG (α := Lev w T) rfl (by omega) (gf := 54) (lb := #[.pointer (some ⟨B + 1 + 1, 0, none⟩)]) rfl trivial (enters_of Try.func54 (by kernel_rfl) rfl)
    (back_stops 8 (B + 1 + 1) n cap a T w X0 (by omega) HT.out (by omega) hbw hcp (by omega)) (fun h k => KeepP.trans h k) (fun W l o o' hl h h1 h2 => ⟨belowK_b (w := X0) (by omega) W l o o' hl h h1 h2, World.putObj_heap_other (by omega)⟩) (Below.refl _ _) (fun _ => rfl)
    (fun pre W => SI w B T key (pre.map Lev.idx) W)
    (fun c pre W => c = .exit 0 ∧ M.lastK (flat T) < key ∧ T ≠ [] ∧ SI w B T key [] W) ?hI ?hIx ⟨hbx1, ⟨none, 0, 0, [], hbx2, ⟨Rd.zero rfl rfl, Nat.le_refl _, by simp [maxLen], fun _ => ⟨rfl, rfl⟩⟩, rfl⟩, hbxk, hbw, by omega⟩
    (fun x => { tmps := #[.slice a n cap, .int .i64 key, undef, .pointer (some ⟨w.heap.size, 0, none⟩), .int .i64 0, .int .i64 0, .int .i64 0, .int .i64 0, .pointer (some ⟨B, 0, none⟩), .pointer (some ⟨B + 1, 0, none⟩), undef, Lev.val x, undef, undef, undef, .slice a n cap, .int .i64 0, .int .i64 0, .bool false, undef, .int .i64 key, .bool false, .bool false, .int .i64 key, .bool false, .bool false, .slice a n cap, .func (.func 54) #[] #[.pointer (some ⟨B + 1 + 1, 0, none⟩)], .int .i64 (x.idx : Int), Lev.val x, undef, undef, undef, undef, undef, undef, undef, undef, undef, undef, undef, undef, undef, undef, undef, undef, undef, undef, undef, undef, undef, undef], defers := [] }) ?assign ?body ?done ?stop
  case hI =>
    intro s X Y row h hg hr
    exact h.from hwB hg (by rw [hsz] at hr; exact hr)
  case hIx =>
    rintro c s X Y row ⟨h1, h2, h3, h4⟩ hg hr
    exact ⟨h1, h2, h3, h4.from hwB hg (by rw [hsz] at hr; exact hr)⟩
  case assign =>
    intro lp x W K hK
    gi_wp2
    exact hK
  case body =>
    rintro lp pre x W ⟨hv1, ⟨fa, fn, fc, fr, hv2, hfr, hfk⟩, hvk, hbel, hWB⟩ hlt
    obtain ⟨⟨⟨xi, ⟨xa, xn, xc⟩⟩, hxT, hxL⟩, hx⟩ : ∃ y, y = x := ⟨x, rfl⟩
    have e1 : Lev.val x = .slice xa xn xc := by rw [← hx]; rfl
    have e2 : x.idx = xi := by rw [← hx]; rfl
    have hxT' : xi < T.length := hxT
    have hxL' : LvS w xa xn xc (T.getD xi []) := hxL
    obtain ⟨L, hL⟩ : ∃ L, L = T.getD xi [] := ⟨_, rfl⟩
    rw [← hL] at hxL'
    obtain ⟨y1, y2, y3, y4, y5⟩ := HLev.out L (by rw [hL]; exact getD_memT T [] xi hxT')
    rw [e1, e2]
    have hxn : xn ≤ 40 := by rw [← hxL'.1.1]; exact y4
    have hxn0 : 0 < xn := by rw [← hxL'.1.1]; exact List.length_pos_iff.2 y1
    obtain ⟨xb, xo, rfl⟩ : ∃ b o, xa = some ⟨b, o, none⟩ := by
      rcases hxL'.1.2 with e | ⟨b', o', e, _⟩
      · omega
      · exact ⟨b', o', e⟩
    have hcv := hv1.cell
    have hfv := hv1.frozen
    have hcf := hv2.cell
    have hff := hv2.frozen
    have hck := hvk.cell
    have HLW : Aside (LvS W (some ⟨xb, xo, none⟩) xn xc L) := hxL'.below hbel
    have HL0 : Aside (LvS w (some ⟨xb, xo, none⟩) xn xc L) := hxL'
    have HFU : Aside (Calls Try.prog 40 #[.slice (some ⟨xb, xo, none⟩) xn xc, .int .i64 key] W fun e w' => ∃ k : Nat, e = .returned (.int .i64 k) ∧ Hid (M.FU L key k) ∧ k ≤ xn ∧ Below W.heap.size W w') := firstUp_some xb xo xn xc L key W HLW.out.1 hxn0 (by omega) y2 y5
    have HY : Aside (L ≠ [] ∧ M.Ok L.flatten ∧ M.lastK L.flatten = M.lastK (flat T) ∧ (∀ c ∈ L, c ≠ [])) := ⟨y1, y2, y3, fun c hc => (y5 c hc).1⟩
    have HEL : Aside (L = T.getD xi []) := hL
    have HV1 : Aside (Boxed W B 3 (.int .i64 (pre.map Lev.idx).length)) := hv1
    have HV2 : Aside (Boxed W (B + 1) 22 (.slice fa fn fc)) := hv2
    have HVK : Aside (Boxed W w.heap.size 3 (.int .i64 key)) := hvk
    have HFR : Aside (Sl w fa fn fc fr) := hfr
    have HFK : Aside (match (pre.map Lev.idx).getLast? with | none => fr = [] | some i => key ≤ M.lastK (flat T) ∧ ∃ k, M.FU (T.getD i []) key k ∧ k < (T.getD i []).length ∧ fr = (T.getD i []).getD k []) := hfk
    obtain ⟨pl, hpl⟩ : ∃ pl, pl = (pre.map Lev.idx).length := ⟨_, rfl⟩
    rw [← hpl] at HV1 hcv
    have HPL : Aside (pl = (pre.map Lev.idx).length) := hpl
    have hpl6 : pl < 1000 := by rw [hpl, List.length_map]; exact hlt
    have HE2 : Aside ((pre ++ [x]).map Lev.idx = pre.map Lev.idx ++ [xi]) := by unfold Aside; rw [List.map_append, List.map_singleton, e2]
    clear y1 y2 y3 y4 y5 hL hxL hxL' hx e1 e2 hv1 hv2 hvk hfr hfk hpl
    by_cases hkl : key ≤ M.lastK (flat T)
    · have HF2 : Aside (Calls Try.prog 40 #[.slice (some ⟨xb, xo, none⟩) xn xc, .int .i64 key] W fun e w' => ∃ (k : Nat) (ca : Option Addr) (cn cc : Nat), e = .returned (.int .i64 k) ∧ Hid (M.FU L key k ∧ Sl w ca cn cc (L.getD k [])) ∧ k < xn ∧ Below W.heap.size W w' ∧ w'.cell? ⟨xb, xo + k, none⟩ = some (.slice ca cn cc) ∧ w'.cell? ⟨B, 0, none⟩ = some (.int .i64 pl) ∧ w'.frozen? ⟨B, 0, none⟩ = false ∧ w'.cell? ⟨B + 1, 0, none⟩ = some (.slice fa fn fc) ∧ w'.frozen? ⟨B + 1, 0, none⟩ = false) := by
        refine HFU.out.mono ?_
        rintro e w' ⟨k, rfl, hF, hk, hb⟩
        have hkx : k < xn := by
          have := hF.out.yes HY.out.1 HY.out.2.2.2 (by rw [HY.out.2.2.1]; exact hkl)
          rwa [HL0.out.1.1] at this
        obtain ⟨hB1, hcl⟩ := HL0.out.1.at hxn0
        obtain ⟨ca, cn, cc, q1, s1⟩ := hcl k hkx
        have k1 : Boxed w' B 3 (.int .i64 pl) := (hb.block B (by omega)).trans HV1.out
        have k2 : Boxed w' (B + 1) 22 (.slice fa fn fc) := (hb.block (B + 1) (by omega)).trans HV2.out
        exact ⟨k, ca, cn, cc, rfl, ⟨hF.out, s1⟩, hkx, hb, ((hbel.trans (hb.mono hbel.size)).cell (p := ⟨xb, xo + k, none⟩) hB1).trans q1, k1.cell, k1.frozen, k2.cell, k2.frozen⟩
      have HKL : Aside (key ≤ M.lastK (flat T)) := hkl
      clear HFU hkl
      gi_wp2_with (refine ⟨trivial, ?_⟩; gi_at_call 40; refine (CallsIn.inRound lp (callsIn_wide.2 HF2.out)).mono ?_; rintro e W2 ⟨k, ca, cn, cc, rfl, HK, hkx, b2, cc1, cc2, cc3, cc4, cc5⟩; have hkb : ((k : Int) == (xn : Int)) = false := by (simp; omega))
      obtain ⟨z1, z2, z3, z4, z5, z6, z7⟩ := SI.put (v1 := .int .i64 ((pl : Int) + 1)) (v2 := .slice ca cn cc) hwB HV1.out HV2.out HVK.out hbel hWB b2
      refine ⟨by rw [hsz]; exact z1, z2, ?_⟩
      show SI w B T key ((pre ++ [x]).map Lev.idx) _
      rw [HE2.out]
      refine ⟨by rw [List.length_append, ← HPL.out]; exact z3, ⟨ca, cn, cc, L.getD k [], z4, HK.out.2, ?_⟩, z5, z6, z7⟩
      rw [List.getLast?_append]
      show key ≤ M.lastK (flat T) ∧ ∃ k', M.FU (T.getD xi []) key k' ∧ k' < (T.getD xi []).length ∧ L.getD k [] = (T.getD xi []).getD k' []
      rw [← HEL.out]
      exact ⟨HKL.out, k, HK.out.1, by rw [HL0.out.1.1]; exact hkx, rfl⟩
    · have hkl' : M.lastK (flat T) < key := by omega
      have HKL : Aside (M.lastK (flat T) < key) := hkl'
      have HF2 : Aside (Calls Try.prog 40 #[.slice (some ⟨xb, xo, none⟩) xn xc, .int .i64 key] W fun e w' => e = .returned (.int .i64 xn) ∧ Below W.heap.size W w') := by
        refine HFU.out.mono ?_
        rintro e w' ⟨k, rfl, hF, hk, hb⟩
        have hkx := hF.out.no HY.out.1 HY.out.2.1 HY.out.2.2.2 (by rw [HY.out.2.2.1]; exact hkl')
        rw [HL0.out.1.1] at hkx
        rw [hkx]
        exact ⟨rfl, hb⟩
      have HPN : Aside (pre.map Lev.idx = []) := by
        unfold Aside
        have h := HFK.out
        cases hl : (pre.map Lev.idx).getLast? with
        | none => exact List.getLast?_eq_none_iff.1 hl
        | some i => rw [hl] at h; exact absurd h.1 (by omega)
      have HFN : Aside (fr = []) := by
        have h := HFK.out
        rw [HPN.out] at h
        exact h
      clear HFU hkl hkl'
      have hxx : ((xn : Int) == (xn : Int)) = true := by simp
      gi_wp2_with (refine ⟨trivial, ?_⟩; gi_at_call 40; refine (CallsIn.inRound lp (callsIn_wide.2 HF2.out)).mono ?_; rintro e W2 ⟨rfl, b2⟩)
      refine ⟨keeps_below b2, rfl, HKL.out, fun e => by rw [e] at hxT'; simp at hxT', ?_⟩
      have hp0 : pl = 0 := by rw [HPL.out, HPN.out]; rfl
      refine ⟨?_, ⟨fa, fn, fc, fr, (b2.block (B + 1) (by omega)).trans HV2.out, HFR.out, HFN.out⟩, (b2.block w.heap.size (by omega)).trans HVK.out, hbel.trans (b2.mono hbel.size), Nat.le_trans hWB b2.size⟩
      have := (b2.block B (by omega)).trans HV1.out
      rw [hp0] at this
      exact this
  case done =>
    rintro D ys W hD hys hSI hKd
    rw [hys] at hSI
    obtain ⟨fa, fn, fc, fr, hv2, hfr, hf0, hfv, hv1, hvk, hbel, hWB⟩ := SI.fin (v := v) (lk := lk) HV.out HLK.out HCh.out HLev.out HT.out.1.1 hSI (Or.inl rfl)
    have hcv := hv1.cell
    have hcf := hv2.cell
    have hck := hvk.cell
    have HFA := find_any fa fn fc fr key W (hfr.below hbel).1 hfr.len
    rw [show M.findV fr key = v by rw [M.findV_ok (M.asked_ok hf0 hk hk2)]; exact hfv, M.asked_ok hf0 hk hk2] at HFA
    have HV1 : Aside (Boxed W B 3 (.int .i64 lk)) := hv1
    have HFA1 : Aside (Calls Try.prog 27 #[.slice fa fn fc, .int .i64 key] W fun e w' => e = .returned (.tuple #[.int .i64 v, .int .i64 0]) ∧ Below W.heap.size W w' ∧ w'.cell? ⟨B, 0, none⟩ = some (.int .i64 lk)) := HFA.mono fun e w' ⟨h1, h2⟩ => ⟨h1, h2, (h2.cell (p := ⟨B, 0, none⟩) (by show B < _; omega)).trans hcv⟩
    have HKd : Aside (W.heap[D]? = some (.deferred (some []))) := hKd
    clear HFA hv1 hv2 hvk hfr hKd hf0 hfv
    gi_wp2_with (refine ⟨trivial, ?_⟩; gi_at_call 27; refine (callsIn_wide.2 HFA1.out).mono ?_; rintro e W3 ⟨rfl, b3, hcl⟩)
    gi_quiet (fail)
    gi_wp2
    have hDW : D < W.heap.size := (Array.getElem?_eq_some_iff.1 HKd.out).1
    have d1 : (W3.drewN nq).heap[D]? = some (.deferred (some [])) := (b3.block D hDW).trans HKd.out
    refine ⟨by simp, .inl ⟨_, _, rfl, run_takeDeferred d1, ?_⟩⟩
    refine ⟨.tuple #[.int .i64 v, .int .i64 lk, .int .i64 0], by simp [results, Try.results22, go_sem], rfl, ?_⟩
    exact (below_drewN (hbel.trans (b3.mono hbel.size)) nq).trans (belowK_b (w := w) (Nat.le_refl _) (W3.drewN nq) D _ _ (by omega) d1 rfl rfl)
  case stop =>
    rintro D c pre W hD _ ⟨rfl, hkl, hTne, hSI⟩ hKd
    obtain ⟨fa, fn, fc, fr, hv2, hfr, hf0, hfv, hv1, hvk, hbel, hWB⟩ := SI.fin (v := v) (lk := lk) HV.out HLK.out HCh.out HLev.out HT.out.1.1 hSI (Or.inr ⟨rfl, hkl⟩)
    have hcv := hv1.cell
    have hcf := hv2.cell
    have hck := hvk.cell
    have HFA := find_any fa fn fc fr key W (hfr.below hbel).1 hfr.len
    rw [show M.findV fr key = v by rw [M.findV_ok (M.asked_ok hf0 hk hk2)]; exact hfv, M.asked_ok hf0 hk hk2] at HFA
    have HV1 : Aside (Boxed W B 3 (.int .i64 lk)) := hv1
    have HFA1 : Aside (Calls Try.prog 27 #[.slice fa fn fc, .int .i64 key] W fun e w' => e = .returned (.tuple #[.int .i64 v, .int .i64 0]) ∧ Below W.heap.size W w' ∧ w'.cell? ⟨B, 0, none⟩ = some (.int .i64 lk)) := HFA.mono fun e w' ⟨h1, h2⟩ => ⟨h1, h2, (h2.cell (p := ⟨B, 0, none⟩) (by show B < _; omega)).trans hcv⟩
    have HKd : Aside (W.heap[D]? = some (.deferred (some []))) := hKd
    clear HFA hv1 hv2 hvk hfr hKd hf0 hfv
    gi_wp2_with (refine ⟨trivial, ?_⟩; gi_at_call 27; refine (callsIn_wide.2 HFA1.out).mono ?_; rintro e W3 ⟨rfl, b3, hcl⟩)
    gi_quiet (fail)
    gi_wp2
    have hDW : D < W.heap.size := (Array.getElem?_eq_some_iff.1 HKd.out).1
    have d1 : (W3.drewN nq).heap[D]? = some (.deferred (some [])) := (b3.block D hDW).trans HKd.out
    refine ⟨by simp, .inl ⟨_, _, rfl, run_takeDeferred d1, ?_⟩⟩
    refine ⟨.tuple #[.int .i64 v, .int .i64 lk, .int .i64 0], by simp [results, Try.results22, go_sem], rfl, ?_⟩
    exact (below_drewN (hbel.trans (b3.mono hbel.size)) nq).trans (belowK_b (w := w) (Nat.le_refl _) (W3.drewN nq) D _ _ (by omega) d1 rfl rfl)

/-- What Find tells: the error, the value, the looks. -/
def seekE (T : List (List (List (Int × Int)))) (key : Int) : Int := if treeE T ≠ 0 then treeE T else if key < 0 ∨ 99 < key then 3 else 0
def seekV (T : List (List (List (Int × Int)))) (key : Int) : Int := if seekE T key = 0 then M.find key (flat T) else 0
def seekL (T : List (List (List (Int × Int)))) (key : Int) : Int := if seekE T key = 0 then looksV T key else 0
theorem seekF_any (a : Option Addr) (n cap : Nat) (T : List (List (List (Int × Int)))) (key : Int) (w : World) (hT : TvS w a n cap T) (hbig : Big T) :
    Calls Try.prog 22 #[.slice a n cap, .int .i64 key] w fun e w' => e = .returned (.tuple #[.int .i64 (seekV T key), .int .i64 (seekL T key), .int .i64 (seekE T key)]) ∧ Below w.heap.size w w' := by
  rcases treeE_or T with h0 | h0
  · by_cases hr : key < 0 ∨ 99 < key
    · have e : seekE T key = 3 := by unfold seekE; rw [if_neg (by omega), if_pos hr]
      unfold seekV seekL
      rw [e]
      exact seekF_range a n cap T key w hT hbig h0 hr
    · have e : seekE T key = 0 := by unfold seekE; rw [if_neg (by omega), if_neg hr]
      unfold seekV seekL
      rw [e]
      exact seekF_ok a n cap T key w hT hbig h0 (by omega) (by omega)
  · have e : seekE T key = 1 := by unfold seekE; rw [if_pos (by omega), h0]
    unfold seekV seekL
    rw [e]
    exact seekF_bad a n cap T key w hT hbig h0
end Go.Proofs.Ytcgpgflnihjpiab
