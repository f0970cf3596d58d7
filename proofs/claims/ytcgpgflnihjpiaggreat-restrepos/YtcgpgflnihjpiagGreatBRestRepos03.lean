/- A pen: Bytes, Pairs, Text, Written. -/
import Derived.Test.YtcgpgflnihjpiagGreatBRestRepos02
import Derived.Test.YtcgpgflnihjpiagGreatBRestRepos01
import Derived.Lib.AppendZeros
namespace Go.Proofs.YtcgpgflnihjpiagGreat
open Go.RowKit Go.Lib

/-- Numbers that lie in a block of their own stay whatever is put. -/
theorem ri_kept {w w' : World} {k : Nat} {ns : List Int} (h : w.heap[k]? = some (.cells (ns.map (Value.int .i64)).toArray 3 (0, 0))) (hk : Kp w w') : Ri w' (some ⟨k, 0, none⟩) ns.length ns := by
  have h1 := hk k _ _ (by decide) (by decide) h
  refine ⟨rfl, Or.inr ⟨k, 0, rfl, (Array.getElem?_eq_some_iff.1 h1).1, fun i hi => ?_⟩⟩
  rw [cell_of_row _ _ _ _ _ _ h1]
  simp [List.getD, hi]

set_option maxRecDepth 100000 in
set_option maxHeartbeats 4000000 in
theorem pbytes_any (b base : Nat) (l : M.By) (ov : Bool) (a : Option Addr) (m cap : Nat) (ns : List Int) (w : World) (hP : PenAt w base b l ov) (hr : ∀ w', Below base w w' → Kp w w' → Ri w' a m ns) (hm : m ≤ 1000) (hll : l.length ≤ 400000) :
    Calls Tryz.prog 24 #[.pointer (some ⟨b, 0, none⟩), .slice a m cap] w fun e w' => (∃ v, e = .returned v) ∧ PenAt w' base b (M.pnL false (l, ov) ns).1 (M.pnL false (l, ov) ns).2 ∧ Below base w w' ∧ Kp w w' := by
  have K := pput1_any b base l ov a m cap ns w hP hr hm (fun k => by
    have h1 := M.pnL_len false (l, ov) (ns.take k)
    have h2 : (ns.take k).length ≤ m := by rw [← (hr w (Below.refl _ _) (Kp.refl _)).1, List.length_take]; omega
    simp only at h1
    omega)
  have HK : Hid (Calls Tryz.prog 57 #[.pointer (some ⟨b, 0, none⟩), .int .i64 256, .slice a m cap] w fun e w' => (∃ v, e = .returned v) ∧ PenAt w' base b (M.pnL false (l, ov) ns).1 (M.pnL false (l, ov) ns).2 ∧ Below base w w' ∧ Kp w w') := K
  clear K hP hr
  go_enter Tryz.func24, Tryz.ntmps24
  go_wp2_with fail
  refine HK.out.mono ?_
  rintro e w1 ⟨⟨v, rfl⟩, h1, h2, h3⟩
  have H1 : Hid (PenAt _ _ _ _ _) := h1
  clear h1
  go_wp2
  go_end0
  exact ⟨⟨_, rfl⟩, H1.out, h2, h3⟩
set_option maxRecDepth 100000 in
set_option maxHeartbeats 4000000 in
theorem ppairs_any (b base : Nat) (l : M.By) (ov : Bool) (a : Option Addr) (m cap : Nat) (ns : List Int) (w : World) (hP : PenAt w base b l ov) (hr : ∀ w', Below base w w' → Kp w w' → Ri w' a m ns) (hm : m ≤ 1000) (hll : l.length ≤ 400000) :
    Calls Tryz.prog 26 #[.pointer (some ⟨b, 0, none⟩), .slice a m cap] w fun e w' => (∃ v, e = .returned v) ∧ PenAt w' base b (M.pnL true (l, ov) ns).1 (M.pnL true (l, ov) ns).2 ∧ Below base w w' ∧ Kp w w' := by
  have K := pput2_any b base l ov a m cap ns w hP hr hm (fun k => by
    have h1 := M.pnL_len true (l, ov) (ns.take k)
    have h2 : (ns.take k).length ≤ m := by rw [← (hr w (Below.refl _ _) (Kp.refl _)).1, List.length_take]; omega
    simp only at h1
    omega)
  have HK : Hid (Calls Tryz.prog 57 #[.pointer (some ⟨b, 0, none⟩), .int .i64 65536, .slice a m cap] w fun e w' => (∃ v, e = .returned v) ∧ PenAt w' base b (M.pnL true (l, ov) ns).1 (M.pnL true (l, ov) ns).2 ∧ Below base w w' ∧ Kp w w') := K
  clear K hP hr
  go_enter Tryz.func26, Tryz.ntmps26
  go_wp2_with fail
  refine HK.out.mono ?_
  rintro e w1 ⟨⟨v, rfl⟩, h1, h2, h3⟩
  have H1 : Hid (PenAt _ _ _ _ _) := h1
  clear h1
  go_wp2
  go_end0
  exact ⟨⟨_, rfl⟩, H1.out, h2, h3⟩

theorem strCells_b8 (s : M.By) : strCells (M.str s) = b8 s := by
  simp [strCells, M.str, b8]
/-- A text's bytes are appended. -/
theorem append_text {w : World} {ops : Array Oper} {rest : List Oper} {o : Oper} {a : Act} {Q : Exit → Act → World → Prop} (hgd : o.guard = none) (s x : Operand)
    (ho : o.op = .call { callee := .builtin .append, args := #[s, x], argTypes := #[67, 9] })
    (base : Nat) (v : Value) (l t : M.By) (hs : a.eval s = v) (hx : a.eval x = .string (M.str t)) (hown : OwnB w base v l)
    (hbig : l.length + t.length ≤ 1000000) (hbase : base ≤ w.heap.size)
    (h : ∀ v' w', OwnB w' base v' (l ++ t) → w.grownBy w' v.ownBlock → wpList Tryz.prog ops Q rest (a.put o.dst v') w') : wpList Tryz.prog ops Q (o :: rest) a w := by
  obtain ⟨i0, hi, hz0, hz1, hz2⟩ := info_parts infoU8
  obtain ⟨v', w', hrun, ho', hg, _⟩ := run_append_own_string (P := Tryz.prog) w base 67 9 o.type 5 i0 (by kernel_rfl) (by kernel_rfl) hi hz0 hz1 hz2 v l.length (b8 l) hown (M.str t) (by rw [M.str_size]; unfold maxLen; omega) (by rw [M.str_size]; omega) hbase
  have hk := h v' w' (by unfold OwnB; rw [b8_append, List.length_append]; rw [M.str_size, strCells_b8] at ho'; exact ho') hg
  refine wpList_plain hgd fun K hK => ?_
  unfold Oper.wp execOp
  simp only [ho, resolve, invoke, builtin, Sem.run_bind, Sem.run_pure, Result.andThen_ok, List.map_toArray, List.map_cons, List.map_nil, hs, hx, hrun]
  exact hK _ _ hk

set_option maxRecDepth 100000 in
set_option maxHeartbeats 8000000 in
theorem ptext_any (b base : Nat) (l : M.By) (ov : Bool) (s : M.By) (w : World) (hP : PenAt w base b l ov) (hs : s.length ≤ 9223372036854775807) (hll : l.length ≤ 300000) :
    Calls Tryz.prog 25 #[.pointer (some ⟨b, 0, none⟩), .string (M.str s)] w fun e w' => (∃ v, e = .returned v) ∧ PenAt w' base b (M.pnT (l, ov) s).1 (M.pnT (l, ov) s).2 ∧ Below base w w' ∧ Kp w w' := by
  have hbb : base ≤ b := by obtain ⟨_, _, h, _⟩ := hP; exact h
  have hbs : base ≤ w.heap.size := Nat.le_trans hbb (Nat.le_of_lt hP.lt)
  obtain ⟨W, hW⟩ : ∃ W, W = w.alloc (.cells #[.int .i64 (s.length : Int)] 3) := ⟨_, rfl⟩
  have hb0 : Below w.heap.size w W := by rw [hW]; exact (Below.refl _ _).alloc (Nat.le_refl _) _
  have hW0 : W.heap[w.heap.size]? = some (.cells #[.int .i64 (s.length : Int)] 3 (0, 0)) := by rw [hW]; exact heap_alloc_new _ _
  have K := pbytes_any b base l ov (some ⟨w.heap.size, 0, none⟩) 1 1 [(s.length : Int)] W (hP.later hb0) (fun w' _ hk => ri_kept hW0 hk) (by omega) (by omega)
  have HK : Hid (Calls Tryz.prog 24 #[.pointer (some ⟨b, 0, none⟩), .slice (some ⟨w.heap.size, 0, none⟩) 1 1] W fun e w' => (∃ v, e = .returned v) ∧ PenAt w' base b (M.pnS false (l, ov) (s.length : Int)).1 (M.pnS false (l, ov) (s.length : Int)).2 ∧ Below base W w' ∧ Kp W w') := K
  have HW : Hid (W = w.alloc (.cells #[.int .i64 (s.length : Int)] 3)) := hW
  have hbel : Below base w W := hb0.mono hbs
  have hkp : Kp w W := Kp.of hb0
  obtain ⟨str, hstr⟩ : ∃ str, str = M.str s := ⟨_, rfl⟩
  have hsz : str.size = s.length := by rw [hstr, M.str_size]
  have HS : Hid (str = M.str s) := hstr
  rw [← hstr]
  obtain ⟨sl, hsl⟩ : ∃ sl, sl = s.length := ⟨_, rfl⟩
  have HSl : Hid (sl = s.length) := hsl
  have hsl8 : sl ≤ 9223372036854775807 := by omega
  rw [← hsl] at hsz HK HW
  have hlen := M.pnS_len false (l, ov) (sl : Int)
  have HT : Hid (M.pnT (l, ov) s = if (M.pnS false (l, ov) (sl : Int)).2 = true then M.pnS false (l, ov) (sl : Int) else ((M.pnS false (l, ov) (sl : Int)).1 ++ s, false)) := by rw [hsl]; rfl
  have HB : Hid ((M.pnS false (l, ov) (sl : Int)).2 = false → sl < 256) := M.pnS_small
  generalize M.pnS false (l, ov) (sl : Int) = st at *
  obtain ⟨l1, o1⟩ := st
  simp only at hlen
  clear K hP hW hstr hsl hs hb0 hW0
  go_enter Tryz.func25, Tryz.ntmps25
  go_wp2_with fail
  rw [← HW.out]
  refine HK.out.mono ?_
  rintro e w1 ⟨⟨v, rfl⟩, h1, h2, h3⟩
  obtain ⟨v1, blk, _, ob⟩ := h1
  obtain ⟨va, vn, vc, rfl⟩ : ∃ va vn vc, v1 = .slice va vn vc := by
    rcases ob.2 with ⟨e, _⟩ | ⟨g, c, _, e, _⟩
    · exact ⟨_, _, _, e⟩
    · exact ⟨_, _, _, e⟩
  have c0 : w1.cell? ⟨b, 0, none⟩ = some (.slice va vn vc) := by rw [cell_of_row _ _ _ _ _ _ blk]; rfl
  have c1 : w1.cell? ⟨b, 1, none⟩ = some (.bool o1) := by rw [cell_of_row _ _ _ _ _ _ blk]; rfl
  have hbw1 := hbel.trans h2
  have hkw1 := hkp.trans h3
  have Hblk : Hid (w1.heap[b]? = some (.cells #[.slice va vn vc, .bool o1] 69 (0, 0))) := blk
  have Hob : Hid (OwnB w1 base (.slice va vn vc) l1) := ob
  have hbs1 : base ≤ w1.heap.size := Nat.le_trans hbs hbw1.size
  clear h2 h3 blk ob hbel hkp HK
  cases o1 with
  | true =>
    go_wp2
    go_end0
    refine ⟨⟨_, rfl⟩, ?_, hbw1, hkw1⟩
    rw [HT.out]
    exact ⟨_, Hblk.out, hbb, Hob.out⟩
  | false =>
    have hs2 : sl < 256 := HB.out rfl
    rw [HS.out]
    have hbig : l1.length + s.length ≤ 1000000 := by rw [← HSl.out]; omega
    go_wp2_with (at_builtin; refine append_text rfl _ _ rfl base _ l1 s rfl rfl Hob.out hbig hbs1 ?_)
    intro v8 w8 o8 g8
    obtain ⟨qa, qn, qc, rfl⟩ : ∃ qa qn qc, v8 = .slice qa qn qc := by
      rcases o8.2 with ⟨e, _⟩ | ⟨g, c, _, e, _⟩
      · exact ⟨_, _, _, e⟩
      · exact ⟨_, _, _, e⟩
    obtain ⟨P1, P2, P3, P4⟩ := PenAt.put (m := s) Hblk.out hbb Hob.out hbs1 g8 o8
    have k8 : w8.cell? ⟨b, 0, none⟩ = some (.slice va vn vc) := by rw [cell_of_row _ _ _ _ _ _ P2]; rfl
    have f8 : w8.frozen? ⟨b, 0, none⟩ = false := frozen_of_row _ _ _ _ _ P2
    have HP1 : Hid (PenAt (w8.setCell ⟨b, 0, none⟩ (.slice qa qn qc)) base b (l1 ++ s) false) := P1
    have HP3 : Hid (Below base w (w8.setCell ⟨b, 0, none⟩ (.slice qa qn qc))) := hbw1.trans P3
    have HP4 : Hid (Kp w (w8.setCell ⟨b, 0, none⟩ (.slice qa qn qc))) := hkw1.trans P4
    clear P1 P2 P3 P4 o8 g8 c0 c1
    go_wp2
    go_end0
    refine ⟨⟨_, rfl⟩, ?_, HP3.out, HP4.out⟩
    rw [HT.out]
    exact HP1.out

set_option maxRecDepth 100000 in
set_option maxHeartbeats 8000000 in
theorem written_any (b base : Nat) (l : M.By) (ov : Bool) (w : World) (hP : PenAt w base b l ov) :
    Calls Tryz.prog 27 #[.pointer (some ⟨b, 0, none⟩)] w fun e w' => e = .returned (.tuple #[.string (M.str (if ov = true then [] else l)), .int .i64 (if ov = true then 3 else 0)]) ∧ Below w.heap.size w w' := by
  obtain ⟨v1, blk, _, ob⟩ := hP
  obtain ⟨va, vn, vc, rfl⟩ : ∃ va vn vc, v1 = .slice va vn vc := by
    rcases ob.2 with ⟨e, _⟩ | ⟨g, c, _, e, _⟩
    · exact ⟨_, _, _, e⟩
    · exact ⟨_, _, _, e⟩
  have c0 : w.cell? ⟨b, 0, none⟩ = some (.slice va vn vc) := by rw [cell_of_row _ _ _ _ _ _ blk]; rfl
  have c1 : w.cell? ⟨b, 1, none⟩ = some (.bool ov) := by rw [cell_of_row _ _ _ _ _ _ blk]; rfl
  have hcv : (convert 67 9 (.slice va vn vc)).run Tryz.prog w = .ok (.string (M.str l)) w := by
    rcases ob.2 with ⟨e, e2⟩ | ⟨g, c, cur, e, hg, hgb, h4, h5, h6, h7⟩
    · simp at e
      obtain ⟨rfl, rfl, rfl⟩ := e
      obtain rfl : l = [] := List.eq_nil_of_length_eq_zero (by simpa using e2)
      exact run_convert_nil_bytes w _ _ 5 _ (by kernel_rfl) (by kernel_rfl) (by kernel_rfl)
    · simp at e
      obtain ⟨rfl, rfl, rfl⟩ := e
      refine run_convert_bytes_back w _ _ 5 _ _ l (by kernel_rfl) (by kernel_rfl) (by kernel_rfl) (fun j hj => ?_)
      have hj2 : j < cur.size := by have := congrArg List.length h7; simp [b8] at this; omega
      rw [Addr.add_lit, cell_of_row _ _ _ _ _ _ hgb]
      have h8 : (cur.toList.take (l.length * 1))[j]? = (b8 l)[j]? := by rw [h7]
      rw [List.getElem?_take_of_lt (by omega)] at h8
      simp [b8, hj] at h8
      simpa using h8
  clear blk ob
  go_enter Tryz.func27, Tryz.ntmps27
  cases ov with
  | true =>
    go_wp2
    go_ret2
    exact ⟨by simp [M.str], Below.refl _ _⟩
  | false =>
    go_wp2
    go_ret2
    exact ⟨by simp, Below.refl _ _⟩
end Go.Proofs.YtcgpgflnihjpiagGreat

/- A pen: a number, a text, in a block of its own. -/
namespace Go.Proofs.YtcgpgflnihjpiagGreat
open Go.RowKit

theorem PenAt.base {w : World} {base b : Nat} {l : M.By} {ov : Bool} (h : PenAt w base b l ov) : base ≤ w.heap.size := by
  have := h.lt
  obtain ⟨_, _, h2, _⟩ := h
  omega
/-- One number of a byte, in a block of its own. -/
theorem pbyte1_any (b base : Nat) (l : M.By) (ov : Bool) (n : Int) (w : World) (hP : PenAt w base b l ov) (hll : l.length ≤ 400000) :
    Calls Tryz.prog 24 #[.pointer (some ⟨b, 0, none⟩), .slice (some ⟨w.heap.size, 0, none⟩) 1 1] (w.alloc (.cells #[.int .i64 n] 3)) fun e w' => (∃ v, e = .returned v) ∧ PenAt w' base b (M.pnL false (l, ov) [n]).1 (M.pnL false (l, ov) [n]).2 ∧ Below base w w' ∧ Kp w w' := by
  have hb0 : Below w.heap.size w (w.alloc (.cells #[.int .i64 n] 3)) := (Below.refl _ _).alloc (Nat.le_refl _) _
  have hW0 : (w.alloc (.cells #[.int .i64 n] 3)).heap[w.heap.size]? = some (.cells (([n] : List Int).map (Value.int .i64)).toArray 3 (0, 0)) := heap_alloc_new _ _
  refine (pbytes_any b base l ov (some ⟨w.heap.size, 0, none⟩) 1 1 [n] _ (hP.later hb0) (fun w' _ hk => ri_kept hW0 hk) (by omega) hll).mono ?_
  rintro e w1 ⟨h1, h2, h3, h4⟩
  exact ⟨h1, h2, (hb0.mono hP.base).trans h3, (Kp.of hb0).trans h4⟩
/-- Two numbers of two bytes. -/
theorem ppair2_any (b base : Nat) (l : M.By) (ov : Bool) (n k : Int) (w : World) (hP : PenAt w base b l ov) (hll : l.length ≤ 400000) :
    Calls Tryz.prog 26 #[.pointer (some ⟨b, 0, none⟩), .slice (some ⟨w.heap.size, 0, none⟩) 2 2] (w.alloc (.cells #[.int .i64 n, .int .i64 k] 3)) fun e w' => (∃ v, e = .returned v) ∧ PenAt w' base b (M.pnL true (l, ov) [n, k]).1 (M.pnL true (l, ov) [n, k]).2 ∧ Below base w w' ∧ Kp w w' := by
  have hb0 : Below w.heap.size w (w.alloc (.cells #[.int .i64 n, .int .i64 k] 3)) := (Below.refl _ _).alloc (Nat.le_refl _) _
  have hW0 : (w.alloc (.cells #[.int .i64 n, .int .i64 k] 3)).heap[w.heap.size]? = some (.cells (([n, k] : List Int).map (Value.int .i64)).toArray 3 (0, 0)) := heap_alloc_new _ _
  refine (ppairs_any b base l ov (some ⟨w.heap.size, 0, none⟩) 2 2 [n, k] _ (hP.later hb0) (fun w' _ hk => ri_kept hW0 hk) (by omega) hll).mono ?_
  rintro e w1 ⟨h1, h2, h3, h4⟩
  exact ⟨h1, h2, (hb0.mono hP.base).trans h3, (Kp.of hb0).trans h4⟩
/-- One number of two bytes. -/
theorem ppair1_any (b base : Nat) (l : M.By) (ov : Bool) (n : Int) (w : World) (hP : PenAt w base b l ov) (hll : l.length ≤ 400000) :
    Calls Tryz.prog 26 #[.pointer (some ⟨b, 0, none⟩), .slice (some ⟨w.heap.size, 0, none⟩) 1 1] (w.alloc (.cells #[.int .i64 n] 3)) fun e w' => (∃ v, e = .returned v) ∧ PenAt w' base b (M.pnL true (l, ov) [n]).1 (M.pnL true (l, ov) [n]).2 ∧ Below base w w' ∧ Kp w w' := by
  have hb0 : Below w.heap.size w (w.alloc (.cells #[.int .i64 n] 3)) := (Below.refl _ _).alloc (Nat.le_refl _) _
  have hW0 : (w.alloc (.cells #[.int .i64 n] 3)).heap[w.heap.size]? = some (.cells (([n] : List Int).map (Value.int .i64)).toArray 3 (0, 0)) := heap_alloc_new _ _
  refine (ppairs_any b base l ov (some ⟨w.heap.size, 0, none⟩) 1 1 [n] _ (hP.later hb0) (fun w' _ hk => ri_kept hW0 hk) (by omega) hll).mono ?_
  rintro e w1 ⟨h1, h2, h3, h4⟩
  exact ⟨h1, h2, (hb0.mono hP.base).trans h3, (Kp.of hb0).trans h4⟩
end Go.Proofs.YtcgpgflnihjpiagGreat

/- An act's values. -/
namespace Go.Proofs.YtcgpgflnihjpiagGreat
/-- An act's values. -/
def actV (x : M.Act) (a : Option Addr) (m cap : Nat) : Value := .agg #[.int .i64 x.kind, .string (M.str x.one), .string (M.str x.two), .slice a m cap]
end Go.Proofs.YtcgpgflnihjpiagGreat

/- The reference's small functions: within, isKey, RowsError, valueOf, FindOf. -/
namespace Go.Proofs.YtcgpgflnihjpiagGreat
open Go.RowKit

theorem within_yes (x lo hi : Int) (w : World) (h1 : lo ≤ x) (h2 : x ≤ hi) :
    Calls Tryz.prog 45 #[.int .i64 x, .int .i64 lo, .int .i64 hi] w fun e w' => e = .returned (.bool true) ∧ w' = w := by
  go_enter Tryz.func45, Tryz.ntmps45
  go_wp2
  go_ret
  exact ⟨rfl, rfl⟩
theorem within_no (x lo hi : Int) (w : World) (h : x < lo ∨ hi < x) :
    Calls Tryz.prog 45 #[.int .i64 x, .int .i64 lo, .int .i64 hi] w fun e w' => e = .returned (.bool false) ∧ w' = w := by
  by_cases h1 : lo ≤ x
  · have h2 : hi < x := by omega
    have hd : decide (x ≤ hi) = false := by simp; omega
    clear h
    go_enter Tryz.func45, Tryz.ntmps45
    go_wp2
    go_ret
    exact ⟨rfl, rfl⟩
  · have h2 : x < lo := by omega
    clear h h1
    go_enter Tryz.func45, Tryz.ntmps45
    go_wp2
    go_ret
    exact ⟨rfl, rfl⟩
theorem isKey_yes (x : Int) (w : World) (h1 : 0 ≤ x) (h2 : x ≤ 99) :
    Calls Tryz.prog 46 #[.int .i64 x] w fun e w' => e = .returned (.bool true) ∧ w' = w := by
  go_enter Tryz.func46, Tryz.ntmps46
  go_wp2_with (go_at_call 45; refine (within_yes _ _ _ _ h1 h2).mono ?_; rintro e w' ⟨rfl, rfl⟩)
  go_ret
  exact ⟨rfl, rfl⟩
theorem isKey_no (x : Int) (w : World) (h : x < 0 ∨ 99 < x) :
    Calls Tryz.prog 46 #[.int .i64 x] w fun e w' => e = .returned (.bool false) ∧ w' = w := by
  have H : Hid (x < 0 ∨ 99 < x) := h
  clear h
  go_enter Tryz.func46, Tryz.ntmps46
  go_wp2_with (go_at_call 45; refine (within_no _ _ _ _ H.out).mono ?_; rintro e w' ⟨rfl, rfl⟩)
  go_ret
  exact ⟨rfl, rfl⟩

theorem error_many (a : Option Addr) (n cap : Nat) (w : World) (h : 40 < n) (hm : n ≤ 9223372036854775807) :
    Calls Tryz.prog 16 #[.slice a n cap] w fun e w' => e = .returned (.int .i64 2) ∧ w' = w := by
  go_enter Tryz.func16, Tryz.ntmps16
  go_wp2
  go_ret
  exact ⟨rfl, rfl⟩

theorem error_none (a : Option Addr) (cap : Nat) (w : World) :
    Calls Tryz.prog 16 #[.slice a 0 cap] w fun e w' => e = .returned (.int .i64 0) ∧ w' = w := by
  go_enter Tryz.func16, Tryz.ntmps16
  go_wp2
  refine wp_loop_rounds 1 ?_
  rw [rounds_succ]
  go_wp2
  go_ret
  exact ⟨rfl, rfl⟩

set_option maxHeartbeats 2000000 in
theorem error_some (b off n cap : Nat) (l : List (Int × Int)) (w : World) (hn : n ≤ 40) (hl : l.length = n) (hB : b < w.heap.size)
    (hc : ∀ i, i < n → w.cell? ⟨b, off + i * 2, none⟩ = some (.int .i64 (l.getD i (0, 0)).1) ∧ w.cell? ⟨b, off + i * 2 + 1, none⟩ = some (.int .i64 (l.getD i (0, 0)).2)) :
    Calls Tryz.prog 16 #[.slice (some ⟨b, off, none⟩) n cap] w fun e w' => e = .returned (.int .i64 (M.chkFrom (-1) l)) ∧ Below w.heap.size w w' := by
  have HC : Aside (∀ i, i < n → w.cell? ⟨b, off + i * 2, none⟩ = some (.int .i64 (l.getD i (0, 0)).1) ∧ w.cell? ⟨b, off + i * 2 + 1, none⟩ = some (.int .i64 (l.getD i (0, 0)).2)) := hc
  have HL : Aside (l.length = n) := hl
  clear hc hl
  go_enter Tryz.func16, Tryz.ntmps16
  go_wp2
  go_loopg [3] n (fun g i wr => ∃ (k : Nat) (q : Int), k + g = n ∧ -1 ≤ q ∧ i = .int .i64 k ∧ Below w.heap.size w wr ∧ Aside (q = M.prev l k) ∧ Aside (M.chkFrom q (l.drop k) = M.chkFrom (-1) l))
  case atStart => exact ⟨0, -1, by omega, by omega, rfl, Below.refl _ _, rfl, by simp [Aside]⟩
  case round =>
    obtain ⟨k, q, hk, hq1, rfl, hbel, A, A2⟩ := hrel
    have hsz := hbel.size
    by_cases hlt : k < n
    · obtain ⟨x, y, hxy⟩ : ∃ x y, l.getD k (0, 0) = (x, y) := ⟨_, _, rfl⟩
      have c0 : wr.cell? ⟨b, off + k * 2, none⟩ = some (.int .i64 x) := by rw [hbel.cell (p := ⟨b, off + k * 2, none⟩) hB, (HC.out k hlt).1, hxy]
      have c1 : wr.cell? ⟨b, off + k * 2 + 1, none⟩ = some (.int .i64 y) := by rw [hbel.cell (p := ⟨b, off + k * 2 + 1, none⟩) hB, (HC.out k hlt).2, hxy]
      have HXY : Aside (l.getD k (0, 0) = (x, y)) := hxy
      clear hxy
      have hki : (k : Int) < (n : Int) := by omega
      by_cases g1 : 0 ≤ x ∧ x ≤ 99
      · obtain ⟨g1, g2⟩ := g1
        by_cases g3 : 0 ≤ y ∧ y ≤ 996
        · obtain ⟨g3, g4⟩ := g3
          by_cases h0 : k = 0
          · have hg : decide (0 < k) = false := by simp; omega
            have H0 : Hid (k = 0) := h0
            clear h0
            go_wp2_with fail
            go_quiet ((first | (go_at_call 46; exact Calls.quiet_of_same (isKey_yes _ _ g1 g2)) | (go_at_call 45; exact Calls.quiet_of_same (within_yes _ _ _ _ g3 g4))))
            go_wp2
            go_roundg (gk - 1)
            case measure => omega
            case rel => exact ⟨k + 1, x, by omega, by omega, by go_num, below_drewN hbel _, by show x = (l.getD _ (0, 0)).1; rw [HXY.out], by unfold Aside; rw [← A2.out, M.chkFrom_good q l k (by rw [HL.out]; exact hlt) x y HXY.out (by have e := A.out; rw [H0.out] at e; have : q = -1 := e; omega) (by omega) (by omega) (by omega)]⟩
          · obtain ⟨j, rfl⟩ : ∃ j, k = j + 1 := ⟨k - 1, by omega⟩
            have cj : wr.cell? ⟨b, off + j * 2, none⟩ = some (.int .i64 (l.getD j (0, 0)).1) := by rw [hbel.cell (p := ⟨b, off + j * 2, none⟩) hB, (HC.out j (by omega)).1]
            obtain ⟨z, hz⟩ : ∃ z, z = (l.getD j (0, 0)).1 := ⟨_, rfl⟩
            rw [← hz] at cj
            have HZ : Hid (z = (l.getD j (0, 0)).1) := hz
            clear hz h0
            by_cases h5 : x ≤ z
            · go_wp2_with fail
              go_quiet ((first | (go_at_call 46; exact Calls.quiet_of_same (isKey_yes _ _ g1 g2)) | (go_at_call 45; exact Calls.quiet_of_same (within_yes _ _ _ _ g3 g4))))
              go_wp2
              go_ret
              exact ⟨ret_int (A2.out.symm.trans (M.chkFrom_bad q l (j + 1) (by rw [HL.out]; exact hlt) x y HXY.out (by have e := A.out; have : q = z := e.trans HZ.out.symm; omega))).symm, below_drewN hbel _⟩
            · have hg : decide (x ≤ z) = false := by simp; omega
              go_wp2_with fail
              go_quiet ((first | (go_at_call 46; exact Calls.quiet_of_same (isKey_yes _ _ g1 g2)) | (go_at_call 45; exact Calls.quiet_of_same (within_yes _ _ _ _ g3 g4))))
              go_wp2
              go_roundg (gk - 1)
              case measure => omega
              case rel => exact ⟨j + 1 + 1, x, by omega, by omega, by go_num, below_drewN hbel _, by show x = (l.getD _ (0, 0)).1; rw [HXY.out], by unfold Aside; rw [← A2.out, M.chkFrom_good q l (j + 1) (by rw [HL.out]; exact hlt) x y HXY.out (by have e := A.out; have : q = z := e.trans HZ.out.symm; omega) (by omega) (by omega) (by omega)]⟩
        · have g3' : y < 0 ∨ 996 < y := by omega
          have G : Hid (y < 0 ∨ 996 < y) := g3'
          clear g3 g3'
          go_wp2_with fail
          go_quiet ((first | (go_at_call 46; exact Calls.quiet_of_same (isKey_yes _ _ g1 g2)) | (go_at_call 45; exact Calls.quiet_of_same (within_no _ _ _ _ G.out))))
          go_wp2
          go_ret
          exact ⟨ret_int (A2.out.symm.trans (M.chkFrom_bad q l k (by rw [HL.out]; exact hlt) x y HXY.out (by have := G.out; omega))).symm, below_drewN hbel _⟩
      · have g3' : x < 0 ∨ 99 < x := by omega
        have G : Hid (x < 0 ∨ 99 < x) := g3'
        clear g1 g3'
        go_wp2_with fail
        go_quiet ((go_at_call 46; exact Calls.quiet_of_same (isKey_no _ _ G.out)))
        go_wp2
        go_ret
        exact ⟨ret_int (A2.out.symm.trans (M.chkFrom_bad q l k (by rw [HL.out]; exact hlt) x y HXY.out (by have := G.out; omega))).symm, below_drewN hbel _⟩
    · go_wp2
      go_ret
      exact ⟨ret_int (A2.out.symm.trans (M.chkFrom_end q l k (by rw [HL.out]; omega))).symm, hbel⟩

theorem error_any (a : Option Addr) (n cap : Nat) (l : List (Int × Int)) (w : World) (h : Rd w a n l) (hm : n ≤ 9223372036854775807) :
    Calls Tryz.prog 16 #[.slice a n cap] w fun e w' => e = .returned (.int .i64 (M.chk l)) ∧ Below w.heap.size w w' := by
  by_cases h40 : 40 < n
  · refine (error_many a n cap w h40 hm).mono ?_
    rintro e w' ⟨rfl, rfl⟩
    exact ⟨by rw [M.chk_many l (by rw [h.1]; exact h40)], Below.refl _ _⟩
  · have e := M.chk_few l (by rw [h.1]; omega)
    rcases h.cases with ⟨rfl, rfl⟩ | ⟨b, off, rfl, hn, hl, hB, hc⟩
    · refine (error_none a cap w).mono ?_
      rintro e w' ⟨rfl, rfl⟩
      exact ⟨rfl, Below.refl _ _⟩
    · rw [e]
      exact error_some b off n cap l w (by omega) hl hB hc
end Go.Proofs.YtcgpgflnihjpiagGreat

/- rows.checkAsked, place, sort.Search. -/
namespace Go.Proofs.YtcgpgflnihjpiagGreat
open Go.RowKit


theorem asked_bad (a : Option Addr) (n cap : Nat) (l : List (Int × Int)) (key : Int) (w : World) (h : Rd w a n l) (hm : n ≤ 9223372036854775807) (hb : M.chk l ≠ 0) :
    Calls Tryz.prog 151 #[.slice a n cap, .int .i64 key] w fun e w' => e = .returned (.int .i64 (M.chk l)) ∧ Below w.heap.size w w' := by
  have H := check_any a n cap l w h hm
  obtain ⟨c, hc⟩ : ∃ c, c = M.chk l := ⟨_, rfl⟩
  rw [← hc] at H hb ⊢
  clear hc h
  have hne : (c != 0) = true := by simp [hb]
  clear hb
  have HH : Hid (Calls Tryz.prog 47 #[.slice a n cap] w fun e w' => e = .returned (.int .i64 c) ∧ Below w.heap.size w w') := H
  clear H
  go_enter Tryz.func151, Tryz.ntmps151
  go_wp2_with (go_at_call 47; refine HH.out.mono ?_; rintro e w' ⟨rfl, hb1⟩)
  go_ret
  exact ⟨rfl, hb1⟩

theorem asked_range (a : Option Addr) (n cap : Nat) (l : List (Int × Int)) (key : Int) (w : World) (h : Rd w a n l) (hm : n ≤ 9223372036854775807) (hb : M.chk l = 0) (hk : key < 0 ∨ 99 < key) :
    Calls Tryz.prog 151 #[.slice a n cap, .int .i64 key] w fun e w' => e = .returned (.int .i64 3) ∧ Below w.heap.size w w' := by
  have H := check_any a n cap l w h hm
  rw [hb] at H
  clear hb h
  have HH : Hid (Calls Tryz.prog 47 #[.slice a n cap] w fun e w' => e = .returned (.int .i64 0) ∧ Below w.heap.size w w') := H
  clear H
  rcases hk with hk | hk
  · go_enter Tryz.func151, Tryz.ntmps151
    go_wp2_with (go_at_call 47; refine HH.out.mono ?_; rintro e w' ⟨rfl, hb1⟩)
    go_ret
    exact ⟨rfl, hb1⟩
  · have hk0 : ¬ key < 0 := by omega
    go_enter Tryz.func151, Tryz.ntmps151
    go_wp2_with (go_at_call 47; refine HH.out.mono ?_; rintro e w' ⟨rfl, hb1⟩)
    go_ret
    exact ⟨rfl, hb1⟩

theorem asked_ok (a : Option Addr) (n cap : Nat) (l : List (Int × Int)) (key : Int) (w : World) (h : Rd w a n l) (hm : n ≤ 9223372036854775807) (hb : M.chk l = 0) (hk : 0 ≤ key) (hk2 : key ≤ 99) :
    Calls Tryz.prog 151 #[.slice a n cap, .int .i64 key] w fun e w' => e = .returned (.int .i64 0) ∧ Below w.heap.size w w' := by
  have H := check_any a n cap l w h hm
  rw [hb] at H
  clear hb h
  have HH : Hid (Calls Tryz.prog 47 #[.slice a n cap] w fun e w' => e = .returned (.int .i64 0) ∧ Below w.heap.size w w') := H
  clear H
  go_enter Tryz.func151, Tryz.ntmps151
  go_wp2_with (go_at_call 47; refine HH.out.mono ?_; rintro e w' ⟨rfl, hb1⟩)
  go_ret
  exact ⟨rfl, hb1⟩

/-- The function literal: does the i-th row's key come up to the key? -/
theorem lit_any (b off n cap : Nat) (key x : Int) (p q i : Nat) (w : World) (hi : i < n)
    (hp : w.cell? ⟨p, 0, none⟩ = some (.slice (some ⟨b, off, none⟩) n cap)) (hq : w.cell? ⟨q, 0, none⟩ = some (.int .i64 key))
    (hx : w.cell? ⟨b, off + i * 2, none⟩ = some (.int .i64 x)) :
    Calls Tryz.prog 164 #[.int .i64 i, .pointer (some ⟨p, 0, none⟩), .pointer (some ⟨q, 0, none⟩)] w fun e w' => e = .returned (.bool (decide (key ≤ x))) ∧ ∃ m, w' = w.drewN m := by
  have hki : (i : Int) < (n : Int) := by omega
  go_enter Tryz.func164, Tryz.ntmps164
  go_wp2_with fail
  go_quiet (fail)
  go_wp2
  go_ret
  exact ⟨rfl, _, rfl⟩

set_option maxHeartbeats 1000000 in
theorem search_some (b off n cap : Nat) (l : List (Int × Int)) (key : Int) (p q : Nat) (w : World) (hn : n ≤ 40)
    (hp : w.cell? ⟨p, 0, none⟩ = some (.slice (some ⟨b, off, none⟩) n cap)) (hq : w.cell? ⟨q, 0, none⟩ = some (.int .i64 key))
    (hc : ∀ i, i < n → w.cell? ⟨b, off + i * 2, none⟩ = some (.int .i64 (l.getD i (0, 0)).1))
    (hs : ∀ i j, i ≤ j → j < n → (l.getD i (0, 0)).1 ≤ (l.getD j (0, 0)).1) :
    Calls Tryz.prog 163 #[.int .i64 n, .func (Fn.func 164) #[] #[.pointer (some ⟨p, 0, none⟩), .pointer (some ⟨q, 0, none⟩)]] w
      fun e w' => (∃ k : Nat, e = .returned (.int .i64 k) ∧ k ≤ n ∧ (∀ i, i < k → (l.getD i (0, 0)).1 < key) ∧ (k < n → key ≤ (l.getD k (0, 0)).1)) ∧ ∃ m, w' = w.drewN m := by
  have HC : Aside (∀ i, i < n → w.cell? ⟨b, off + i * 2, none⟩ = some (.int .i64 (l.getD i (0, 0)).1)) := hc
  have HS : Aside (∀ i j, i ≤ j → j < n → (l.getD i (0, 0)).1 ≤ (l.getD j (0, 0)).1) := hs
  have HP : Aside (w.cell? ⟨p, 0, none⟩ = some (.slice (some ⟨b, off, none⟩) n cap)) := hp
  have HQ : Aside (w.cell? ⟨q, 0, none⟩ = some (.int .i64 key)) := hq
  clear hc hs hp hq
  go_enter Tryz.func163, Tryz.ntmps163
  go_wp2
  go_loopg [5, 6] n (fun g vi vj wr => ∃ i j m : Nat, i ≤ j ∧ j ≤ n ∧ j - i ≤ g ∧ vi = .int .i64 i ∧ vj = .int .i64 j ∧ wr = w.drewN m ∧ Aside (∀ t, t < i → (l.getD t (0, 0)).1 < key) ∧ Aside (j < n → key ≤ (l.getD j (0, 0)).1))
  case atStart => exact ⟨0, n, 0, by omega, by omega, by omega, rfl, rfl, rfl, fun t h => by omega, fun h => by omega⟩
  case round =>
    obtain ⟨i, j, m, hij, hj, hg, rfl, rfl, rfl, A, A2⟩ := hrel
    by_cases hlt : i < j
    · obtain ⟨h, hh⟩ : ∃ h : Nat, h = (i + j) / 2 := ⟨_, rfl⟩
      have e1 : ((i : Int) + (j : Int)) / 2 = (h : Int) := by omega
      have h1 : i ≤ h := by omega
      have h2 : h < j := by omega
      clear hh
      have E1 : Hid (((i : Int) + (j : Int)) / 2 = (h : Int)) := e1
      clear e1
      obtain ⟨x, hx⟩ : ∃ x, x = (l.getD h (0, 0)).1 := ⟨_, rfl⟩
      have HX : Aside (x = (l.getD h (0, 0)).1) := hx
      have cx : (w.drewN m).cell? ⟨b, off + h * 2, none⟩ = some (.int .i64 x) := by rw [hx]; exact HC.out h (by omega)
      clear hx
      have cp : (w.drewN m).cell? ⟨p, 0, none⟩ = some (.slice (some ⟨b, off, none⟩) n cap) := HP.out
      have cq : (w.drewN m).cell? ⟨q, 0, none⟩ = some (.int .i64 key) := HQ.out
      have L := lit_any b off n cap key x p q h (w.drewN m) (by omega) cp cq cx
      have LH : Hid (Calls Tryz.prog 164 #[.int .i64 h, .pointer (some ⟨p, 0, none⟩), .pointer (some ⟨q, 0, none⟩)] (w.drewN m) fun e w' => e = .returned (.bool (decide (key ≤ x))) ∧ ∃ m', w' = (w.drewN m).drewN m') := L
      clear L cx cp cq
      by_cases hkx : key ≤ x
      · have hkd : decide (key ≤ x) = true := by simp [hkx]
        go_wp2_with fail
        rw [E1.out]
        refine LH.out.mono ?_
        rintro e w' ⟨rfl, m', rfl⟩
        go_wp2
        go_roundg (h - i)
        case measure => omega
        case rel => exact ⟨i, h, m + m', by omega, by omega, by omega, rfl, by go_num, rfl, A, fun _ => by rw [← HX.out]; exact hkx⟩
      · have hkd : decide (key ≤ x) = false := by simp [hkx]
        go_wp2_with fail
        rw [E1.out]
        refine LH.out.mono ?_
        rintro e w' ⟨rfl, m', rfl⟩
        go_wp2
        go_roundg (j - (h + 1))
        case measure => omega
        case rel => exact ⟨h + 1, j, m + m', by omega, by omega, by omega, by go_num, rfl, rfl, fun t ht => by have := HS.out t h (by omega) (by omega); have := HX.out; omega, A2⟩
    · go_wp2
      go_ret
      have : i = j := by omega
      subst this
      exact ⟨⟨i, rfl, hj, A.out, A2.out⟩, m, rfl⟩

set_option maxHeartbeats 1000000 in
theorem place_some (b off n cap : Nat) (l : List (Int × Int)) (key : Int) (w : World) (hn : n ≤ 40) (hB : b < w.heap.size)
    (hc : ∀ i, i < n → w.cell? ⟨b, off + i * 2, none⟩ = some (.int .i64 (l.getD i (0, 0)).1))
    (hs : ∀ i j, i ≤ j → j < n → (l.getD i (0, 0)).1 ≤ (l.getD j (0, 0)).1) :
    Calls Tryz.prog 152 #[.slice (some ⟨b, off, none⟩) n cap, .int .i64 key] w
      fun e w' => (∃ (k : Nat) (t : Bool), e = .returned (.tuple #[.int .i64 k, .bool t]) ∧ k ≤ n ∧ (∀ i, i < k → (l.getD i (0, 0)).1 < key) ∧ (k < n → key ≤ (l.getD k (0, 0)).1) ∧ (t = true ↔ k < n ∧ (l.getD k (0, 0)).1 = key)) ∧ Below w.heap.size w w' := by
  obtain ⟨W, hW⟩ : ∃ W, W = (w.alloc (.cells #[.slice (some ⟨b, off, none⟩) n cap] 47)).alloc (.cells #[.int .i64 key] 3) := ⟨_, rfl⟩
  have hbW : Below w.heap.size w W := by rw [hW]; exact ((Below.refl _ _).alloc (Nat.le_refl _) _).alloc (by simp) _
  have cW : ∀ i, i < n → W.cell? ⟨b, off + i * 2, none⟩ = some (.int .i64 (l.getD i (0, 0)).1) := fun i hi => (hbW.cell (p := ⟨b, off + i * 2, none⟩) hB).trans (hc i hi)
  have cp : W.cell? ⟨w.heap.size, 0, none⟩ = some (.slice (some ⟨b, off, none⟩) n cap) := by rw [hW]; simp [go_sem]
  have cq : W.cell? ⟨w.heap.size + 1, 0, none⟩ = some (.int .i64 key) := by rw [hW]; simp [go_sem]
  have S := search_some b off n cap l key w.heap.size (w.heap.size + 1) W hn cp cq cW hs
  have SH : Hid (Calls Tryz.prog 163 #[.int .i64 n, .func (Fn.func 164) #[] #[.pointer (some ⟨w.heap.size, 0, none⟩), .pointer (some ⟨w.heap.size + 1, 0, none⟩)]] W
      fun e w' => (∃ k : Nat, e = .returned (.int .i64 k) ∧ k ≤ n ∧ (∀ i, i < k → (l.getD i (0, 0)).1 < key) ∧ (k < n → key ≤ (l.getD k (0, 0)).1)) ∧ ∃ m, w' = W.drewN m) := S
  have HW : Hid (W = (w.alloc (.cells #[.slice (some ⟨b, off, none⟩) n cap] 47)).alloc (.cells #[.int .i64 key] 3)) := hW
  have CW : Hid (∀ i, i < n → W.cell? ⟨b, off + i * 2, none⟩ = some (.int .i64 (l.getD i (0, 0)).1)) := cW
  clear S hW hc hs cW
  go_enter Tryz.func152, Tryz.ntmps152
  go_wp2_with fail
  rw [← HW.out]
  refine SH.out.mono ?_
  rintro e w' ⟨⟨k, rfl, hk, h1, h2⟩, m, rfl⟩
  have H12 : Hid ((∀ i, i < k → (l.getD i (0, 0)).1 < key) ∧ (k < n → key ≤ (l.getD k (0, 0)).1)) := ⟨h1, h2⟩
  clear h1 h2
  have hbm := below_drewN hbW m
  by_cases hkn : k < n
  · obtain ⟨x, hx⟩ : ∃ x, x = (l.getD k (0, 0)).1 := ⟨_, rfl⟩
    have cx : W.cell? ⟨b, off + k * 2, none⟩ = some (.int .i64 x) := by rw [hx]; exact CW.out k hkn
    have HX : Hid (x = (l.getD k (0, 0)).1) := hx
    clear hx
    have hki : (k : Int) < (n : Int) := by omega
    go_wp2_with fail
    go_quiet (fail)
    go_wp2
    go_ret2
    exact ⟨⟨k, (x == key), rfl, hk, H12.out.1, H12.out.2, by rw [← HX.out]; simp [hkn]⟩, below_drewN hbm _⟩
  · have hd : decide (k < n) = false := by simp; omega
    go_wp2_with fail
    go_quiet (fail)
    go_wp2
    go_ret2
    exact ⟨⟨k, false, rfl, hk, H12.out.1, H12.out.2, by simp; omega⟩, below_drewN hbm _⟩

theorem search_none (f : Value) (w : World) :
    Calls Tryz.prog 163 #[.int .i64 0, f] w fun e w' => e = .returned (.int .i64 0) ∧ w' = w := by
  go_enter Tryz.func163, Tryz.ntmps163
  go_wp2
  refine wp_loop_rounds 1 ?_
  rw [rounds_succ]
  go_wp2
  go_ret
  exact ⟨rfl, rfl⟩

theorem place_none (a : Option Addr) (cap : Nat) (key : Int) (w : World) :
    Calls Tryz.prog 152 #[.slice a 0 cap, .int .i64 key] w fun e w' => e = .returned (.tuple #[.int .i64 0, .bool false]) ∧ Below w.heap.size w w' := by
  go_enter Tryz.func152, Tryz.ntmps152
  go_wp2_with fail
  refine (search_none _ _).mono ?_
  rintro e w' ⟨rfl, rfl⟩
  go_wp2_with fail
  go_quiet (fail)
  go_wp2
  go_ret2
  exact ⟨rfl, below_drewN (((Below.refl _ _).alloc (Nat.le_refl _) _).alloc (by simp) _) _⟩

theorem place_any (a : Option Addr) (n cap : Nat) (l : List (Int × Int)) (key : Int) (w : World) (h : Rd w a n l) (h0 : M.chk l = 0) :
    Calls Tryz.prog 152 #[.slice a n cap, .int .i64 key] w
      fun e w' => ∃ (k : Nat) (t : Bool), e = .returned (.tuple #[.int .i64 k, .bool t]) ∧ M.At l key k t ∧ Below w.heap.size w w' := by
  have hz := (M.chk_zero l).1 h0
  rcases h.cases with ⟨rfl, rfl⟩ | ⟨b, off, rfl, hn, hl, hB, hc⟩
  · refine (place_none a cap key w).mono ?_
    rintro e w' ⟨rfl, hb⟩
    exact ⟨0, false, rfl, ⟨by simp, fun i hi => by omega, fun h => by simp at h, by simp⟩, hb⟩
  · refine (place_some b off n cap l key w (by rw [← hl]; exact hz.1) hB (fun i hi => (hc i hi).1) (fun i j hij hj => hz.2.mono i j hij (by omega))).mono ?_
    rintro e w' ⟨⟨k, t, rfl, h1, h2, h3, h4⟩, hb⟩
    exact ⟨k, t, rfl, ⟨by omega, h2, fun h => h3 (by omega), by rw [hl]; exact h4⟩, hb⟩

theorem asked_any (a : Option Addr) (n cap : Nat) (l : List (Int × Int)) (key : Int) (w : World) (h : Rd w a n l) (hm : n ≤ 9223372036854775807) :
    Calls Tryz.prog 151 #[.slice a n cap, .int .i64 key] w fun e w' => e = .returned (.int .i64 (M.asked l key)) ∧ Below w.heap.size w w' := by
  by_cases hb : M.chk l = 0
  · by_cases hk : key < 0 ∨ 99 < key
    · rw [M.asked_range hb hk]; exact asked_range a n cap l key w h hm hb hk
    · rw [M.asked_ok hb (by omega) (by omega)]; exact asked_ok a n cap l key w h hm hb (by omega) (by omega)
  · rw [M.asked_bad hb]; exact asked_bad a n cap l key w h hm hb

end Go.Proofs.YtcgpgflnihjpiagGreat

/- slices.Grow at nil; slices.Concat. -/
namespace Go.Proofs.YtcgpgflnihjpiagGreat
open Go.RowKit

set_option maxHeartbeats 1000000 in
theorem grow_some (n : Nat) (w : World) (h0 : 0 < n) (hn : n ≤ 1000000) :
    Calls Tryz.prog 165 #[.slice none 0 0, .int .i64 n] w fun e w' => ∃ v, e = .returned v ∧ Own w' w.heap.size v [] ∧ Below w.heap.size w w' := by
  obtain ⟨i0, hi, hz0, hz1, hz2⟩ := info_parts infoRow
  have hrz := fun ty => Lib.run_append_nil_zeros (P := Tryz.prog) w 47 3 ty 56 i0 _ .i64 .i64 Tryz.underlying47 Tryz.underlying3 hi hz0 n h0 (by omega) (by omega) (by rw [hz2]; omega)
  have hGn : n ≤ grownCap w n 0 56 := grownCap_ge w _ _ _
  obtain ⟨G, hG⟩ : ∃ G, G = grownCap w n 0 56 := ⟨_, rfl⟩
  have hG63 : G ≤ maxLen := by rw [hG]; exact grownCap_le_maxLen w n 0 56 (by unfold maxLen; omega)
  rw [← hG] at hrz hGn
  obtain ⟨C, hC⟩ : ∃ C, C = Builtin.zeroCells (Value.agg #[.int .i64 0, .int .i64 0]).cells n ++ Builtin.zeroCells (Value.agg #[.int .i64 0, .int .i64 0]).cells (G - n) := ⟨_, rfl⟩
  rw [← hC] at hrz
  have hCs : C.size = G * 2 := by rw [hC]; simp [Builtin.zeroCells, Value.cells]; omega
  have hown := World.ownsRow_made (base := w.heap.size) (e := 56) (size := 2) w.drew C G (Nat.le_refl _) hG63 hCs
  unfold maxLen at hG63
  have HO : Hid ((w.drew.alloc (.cells C 56)).ownsRow w.heap.size 56 2 (.slice (some ⟨w.heap.size, 0, none⟩) 0 G) 0 []) := hown
  have HR : Hid (∀ ty, (Builtin.append_ #[47, 3] ty #[.slice none 0 0, .int .i64 n]).run Tryz.prog w = .ok (.slice (some ⟨w.heap.size, 0, none⟩) n G) (w.drew.alloc (.cells C 56))) := hrz
  clear hC hG hrz hCs hown hi hz0 hz1 hz2
  go_enter Tryz.func165, Tryz.ntmps165
  go_wp2_with (at_builtin; refine Lib.wpList_append_run _ rfl _ _ _ _ rfl _ _ rfl rfl _ _ (HR.out _) ?_)
  go_ret
  exact ⟨_, rfl, HO.out, (Below.refl _ _).drew.alloc (Nat.le_refl _) _⟩

theorem grow_none (w : World) :
    Calls Tryz.prog 165 #[.slice none 0 0, .int .i64 0] w fun e w' => ∃ v, e = .returned v ∧ Own w' w.heap.size v [] ∧ Below w.heap.size w w' := by
  go_enter Tryz.func165, Tryz.ntmps165
  go_wp2
  go_ret
  exact ⟨_, rfl, World.ownsRow_nil _ _ _ _, Below.refl _ _⟩

theorem grow_any (n : Nat) (w : World) (hn : n ≤ 1000000) :
    Calls Tryz.prog 165 #[.slice none 0 0, .int .i64 n] w fun e w' => ∃ v, e = .returned v ∧ Own w' w.heap.size v [] ∧ Below w.heap.size w w' := by
  by_cases h : n = 0
  · subst h; exact grow_none w
  · exact grow_some n w (by omega) hn

/-- Several slices of rows, side by side in memory. -/
def Rds (w : World) (b off k : Nat) (A : Nat → Option Addr) (C : Nat → Nat) (LL : List (List (Int × Int))) : Prop :=
  LL.length = k ∧ b < w.heap.size ∧ ∀ i, i < k → w.cell? ⟨b, off + i, none⟩ = some (.slice (A i) (LL.getD i []).length (C i)) ∧ Rd w (A i) (LL.getD i []).length (LL.getD i []) ∧ (A i = none → (LL.getD i []).length = 0 ∧ C i = 0)

theorem Rds.below {w w' : World} {b off k : Nat} {A : Nat → Option Addr} {C : Nat → Nat} {LL : List (List (Int × Int))} (h : Rds w b off k A C LL) {B : Nat} (hb : Below B w w') (hB : w.heap.size ≤ B) : Rds w' b off k A C LL := by
  obtain ⟨h1, h2, h3⟩ := h
  refine ⟨h1, Nat.lt_of_lt_of_le h2 hb.size, fun i hi => ⟨?_, (h3 i hi).2.1.below hb hB, (h3 i hi).2.2⟩⟩
  rw [hb.cell (p := ⟨b, off + i, none⟩) (by show b < B; omega)]
  exact (h3 i hi).1

set_option maxHeartbeats 2000000 in
theorem concat_any (b off k cap : Nat) (A : Nat → Option Addr) (C : Nat → Nat) (LL : List (List (Int × Int))) (w : World) (hk : k ≤ 1000) (hR : Rds w b off k A C LL) (hbig : LL.flatten.length ≤ 1000000) :
    Calls Tryz.prog 153 #[.slice (some ⟨b, off, none⟩) k cap] w fun e w' => ∃ v, e = .returned v ∧ Own w' w.heap.size v LL.flatten ∧ Below w.heap.size w w' := by
  have HR : Aside (Rds w b off k A C LL) := hR
  clear hR
  have HBig : Aside (LL.flatten.length ≤ 1000000) := hbig
  clear hbig
  go_enter Tryz.func153, Tryz.ntmps153
  go_wp2
  go_loopg [3, 11] k (fun g s i wr => ∃ j q : Nat, j + g = k ∧ i = .int .i64 j ∧ s = .int .i64 q ∧ w = wr ∧ Aside (q = (LL.take j).flatten.length))
  case atStart => exact ⟨0, 0, by omega, rfl, rfl, rfl, rfl⟩
  case round =>
    obtain ⟨j, q, hj, rfl, rfl, rfl, HQ⟩ := hrel
    by_cases hlt : j < k
    · have c := (HR.out.2.2 j hlt).1
      obtain ⟨m, hm⟩ : ∃ m, m = (LL.getD j []).length := ⟨_, rfl⟩
      rw [← hm] at c
      have e1 : q + m = (LL.take (j + 1)).flatten.length := by rw [flat_take LL j (by rw [HR.out.1]; exact hlt), List.length_append, HQ.out, hm]
      have e2 : q + m ≤ 1000000 := by rw [e1]; exact Nat.le_trans (flat_le LL (j + 1)) HBig.out
      have E1 : Aside (q + m = (LL.take (j + 1)).flatten.length) := e1
      clear e1 hm
      go_wp2
      go_roundg (gk - 1)
      case measure => omega
      case rel => exact ⟨j + 1, q + m, by omega, by go_num, by go_num, rfl, E1⟩
    · obtain rfl : j = k := by omega
      have e2 : q ≤ 1000000 := by rw [HQ.out]; exact Nat.le_trans (flat_le LL j) HBig.out
      go_wp2_with fail
      refine (grow_any q _ e2).mono ?_
      rintro e w1 ⟨v, rfl, hown, hb1⟩
      have HO : Aside (Own w1 w.heap.size v []) := hown
      clear hown
      go_wp2_with fail
      go_loopg [6, 27] j (fun g s i ws => ∃ t : Nat, t + g = j ∧ i = .int .i64 t ∧ Aside (Own ws w.heap.size s (LL.take t).flatten) ∧ Below w.heap.size w ws)
      case atStart => exact ⟨0, by omega, rfl, HO, hb1⟩
      case round =>
        obtain ⟨t, ht, rfl, HT, hb2⟩ := hrel
        by_cases hlt2 : t < j
        · have R2 := HR.out.below hb2 (Nat.le_refl _)
          obtain ⟨c, r2, hnil⟩ := R2.2.2 t hlt2
          obtain ⟨l2, hl2⟩ : ∃ l2, l2 = LL.getD t [] := ⟨_, rfl⟩
          rw [← hl2] at c r2 hnil
          obtain ⟨m, hm⟩ : ∃ m, m = l2.length := ⟨_, rfl⟩
          rw [← hm] at c r2 hnil
          have e1 : (LL.take (t + 1)).flatten = (LL.take t).flatten ++ l2 := by rw [flat_take LL t (by rw [HR.out.1]; exact hlt2), hl2]
          have e3 : (LL.take t).flatten.length + m ≤ 1000000 := by
            have h3 := flat_le LL (t + 1)
            rw [e1, List.length_append, ← hm] at h3
            exact Nat.le_trans h3 HBig.out
          have E1 : Aside ((LL.take (t + 1)).flatten = (LL.take t).flatten ++ l2) := e1
          have E3 : Aside ((LL.take t).flatten.length + m ≤ 1000000) := e3
          have HR2 : Aside (Rd wr (A t) m l2) := r2
          have HN : Aside (A t = none → m = 0 ∧ C t = 0) := hnil
          clear e1 e3 hm hl2 R2 r2 hnil
          go_wp2_with (at_builtin; refine append_rd rfl _ _ rfl w.heap.size _ (LL.take t).flatten rfl HT.out (A t) m (C t) l2 rfl HR2.out HN.out E3.out hb2.size ?_)
          intro v' w' ho' hb3
          have HO' : Aside (Own w' w.heap.size v' ((LL.take t).flatten ++ l2)) := ho'
          have hb4 := hb2.trans hb3
          clear ho' hb3
          go_wp2
          go_roundg (gk - 1)
          case measure => omega
          case rel => exact ⟨t + 1, by omega, by go_num, by unfold Aside; rw [E1.out]; exact HO'.out, hb4⟩
        · obtain rfl : t = j := by omega
          have e1 : (LL.take t).flatten = LL.flatten := by rw [List.take_of_length_le (by rw [HR.out.1]; omega)]
          have E1 : Aside ((LL.take t).flatten = LL.flatten) := e1
          clear e1
          go_wp2
          go_ret
          exact ⟨_, rfl, by have h5 := HT.out; rw [E1.out] at h5; exact h5, hb2⟩
end Go.Proofs.YtcgpgflnihjpiagGreat

/- Plain facts on rows in which a key is put. -/
namespace Go.Proofs.YtcgpgflnihjpiagGreat.M

/-- The rows in which a key has a value, or, of -1, is not there. -/
def own (key val : Int) : List (Int × Int) := if val = -1 then [] else [(key, val)]
def lows (key : Int) (l : List (Int × Int)) : List (Int × Int) := l.filter fun r => decide (r.1 < key)
def highs (key : Int) (l : List (Int × Int)) : List (Int × Int) := l.filter fun r => decide (key < r.1)
def put (key val : Int) (l : List (Int × Int)) : List (Int × Int) := lows key l ++ own key val ++ highs key l

theorem mem_take {l : List (Int × Int)} {k : Nat} {r : Int × Int} (h : r ∈ l.take k) : ∃ i, i < k ∧ i < l.length ∧ l.getD i (0, 0) = r := by
  obtain ⟨i, hi, e⟩ := List.mem_iff_getElem.1 h
  rw [List.length_take] at hi
  refine ⟨i, by omega, by omega, ?_⟩
  rw [← e, List.getElem_take]
  simp [List.getD, show i < l.length by omega]
theorem mem_drop {l : List (Int × Int)} {k : Nat} {r : Int × Int} (h : r ∈ l.drop k) : ∃ i, k ≤ i ∧ i < l.length ∧ l.getD i (0, 0) = r := by
  obtain ⟨i, hi, e⟩ := List.mem_iff_getElem.1 h
  rw [List.length_drop] at hi
  refine ⟨k + i, by omega, by omega, ?_⟩
  rw [← e, List.getElem_drop]
  simp [List.getD, show k + i < l.length by omega]

theorem filter_all {p : Int × Int → Bool} (l : List (Int × Int)) (h : ∀ r ∈ l, p r = true) : l.filter p = l := List.filter_eq_self.2 h
theorem filter_no {p : Int × Int → Bool} (l : List (Int × Int)) (h : ∀ r ∈ l, p r = false) : l.filter p = [] := List.filter_eq_nil_iff.2 fun r hr => by rw [h r hr]; decide

theorem At.lows {l : List (Int × Int)} {key : Int} {k : Nat} {t : Bool} (h : At l key k t) (ok : Ok l) : lows key l = l.take k := by
  unfold M.lows
  rw [← List.take_append_drop k l, List.filter_append, filter_all (l.take k), filter_no (l.drop k)]
  · simp [List.take_append_drop]
  · intro r hr
    obtain ⟨i, h1, h2, rfl⟩ := mem_drop hr
    have := h.2.2.1 (by omega)
    have := ok.mono k i h1 h2
    exact decide_eq_false (by omega)
  · intro r hr
    obtain ⟨i, h1, h2, rfl⟩ := mem_take hr
    simpa using h.2.1 i h1

theorem At.highs_no {l : List (Int × Int)} {key : Int} {k : Nat} (h : At l key k false) (ok : Ok l) : highs key l = l.drop k := by
  unfold M.highs
  rw [← List.take_append_drop k l, List.filter_append, filter_no (l.take k), filter_all (l.drop k)]
  · simp [List.take_append_drop]
  · intro r hr
    obtain ⟨i, h1, h2, rfl⟩ := mem_drop hr
    have h3 := h.2.2.1 (by omega)
    have h4 := ok.mono k i h1 h2
    have h5 : (l.getD k (0, 0)).1 ≠ key := fun e => by have := h.2.2.2.2 ⟨by omega, e⟩; simp at this
    exact decide_eq_true (by omega)
  · intro r hr
    obtain ⟨i, h1, h2, rfl⟩ := mem_take hr
    have := h.2.1 i h1
    exact decide_eq_false (by omega)

theorem At.highs_yes {l : List (Int × Int)} {key : Int} {k : Nat} (h : At l key k true) (ok : Ok l) : highs key l = l.drop (k + 1) := by
  unfold M.highs
  rw [← List.take_append_drop (k + 1) l, List.filter_append, filter_no (l.take (k + 1)), filter_all (l.drop (k + 1))]
  · simp [List.take_append_drop]
  · intro r hr
    obtain ⟨i, h1, h2, rfl⟩ := mem_drop hr
    have h3 := h.yes
    have h4 := ok.asc k i h1 h2
    exact decide_eq_true (by omega)
  · intro r hr
    obtain ⟨i, h1, h2, rfl⟩ := mem_take hr
    have h3 := h.yes
    have h4 := ok.mono i k (by omega) h3.1
    exact decide_eq_false (by omega)

/-- The error of Put. -/
def putE (l : List (Int × Int)) (key val : Int) : Int := if asked l key ≠ 0 then asked l key else if val < -1 ∨ 996 < val then 3 else if 40 < (put key val l).length then 2 else 0
def putV (l : List (Int × Int)) (key val : Int) : List (Int × Int) := if putE l key val = 0 then put key val l else []
theorem putE_bad {l : List (Int × Int)} {key val : Int} (h : asked l key ≠ 0) : putE l key val = asked l key := by unfold putE; rw [if_pos h]
theorem putE_range {l : List (Int × Int)} {key val : Int} (h : asked l key = 0) (hv : val < -1 ∨ 996 < val) : putE l key val = 3 := by unfold putE; rw [if_neg (by omega), if_pos hv]
theorem putE_many {l : List (Int × Int)} {key val : Int} (h : asked l key = 0) (h1 : -1 ≤ val) (h2 : val ≤ 996) (h3 : 40 < (put key val l).length) : putE l key val = 2 := by unfold putE; rw [if_neg (by omega), if_neg (by omega), if_pos h3]
theorem putE_ok {l : List (Int × Int)} {key val : Int} (h : asked l key = 0) (h1 : -1 ≤ val) (h2 : val ≤ 996) (h3 : (put key val l).length ≤ 40) : putE l key val = 0 := by unfold putE; rw [if_neg (by omega), if_neg (by omega), if_neg (by omega)]
theorem putE_zero {l : List (Int × Int)} {key val : Int} (h : putE l key val = 0) : asked l key = 0 ∧ -1 ≤ val ∧ val ≤ 996 ∧ (put key val l).length ≤ 40 := by
  unfold putE at h
  split at h
  · omega
  · split at h
    · omega
    · split at h
      · omega
      · omega
theorem putV_no {l : List (Int × Int)} {key val : Int} (h : putE l key val ≠ 0) : putV l key val = [] := by unfold putV; rw [if_neg h]
theorem putV_ok {l : List (Int × Int)} {key val : Int} (h : putE l key val = 0) : putV l key val = put key val l := by unfold putV; rw [if_pos h]

end Go.Proofs.YtcgpgflnihjpiagGreat.M

/- rows.Put. -/
namespace Go.Proofs.YtcgpgflnihjpiagGreat
open Go.RowKit

theorem Own.lower {w : World} {base base' : Nat} {v : Value} {l : List (Int × Int)} (h : Own w base v l) (hb : base' ≤ base) : Own w base' v l := by
  obtain ⟨h1, h2⟩ := h
  refine ⟨h1, ?_⟩
  rcases h2 with h2 | ⟨g, cap, cur, hv, hg, r⟩
  · exact Or.inl h2
  · exact Or.inr ⟨g, cap, cur, hv, Nat.le_trans hb hg, r⟩

theorem concat3 (W0 : World) (c : Nat) (hc : W0.heap.size = c) (a0 a1 a2 : Option Addr) (n0 n1 n2 c0 c1 c2 : Nat) (L0 L1 L2 : List (Int × Int))
    (h0 : Rd W0 a0 n0 L0) (h1 : Rd W0 a1 n1 L1) (h2 : Rd W0 a2 n2 L2) (z0 : a0 = none → n0 = 0 ∧ c0 = 0) (z1 : a1 = none → n1 = 0 ∧ c1 = 0) (z2 : a2 = none → n2 = 0 ∧ c2 = 0) (hbig : n0 + n1 + n2 ≤ 1000000) :
    Calls Tryz.prog 153 #[.slice (some ⟨c, 0, none⟩) 3 3] (W0.alloc (.cells #[.slice a0 n0 c0, .slice a1 n1 c1, .slice a2 n2 c2] 47)) fun e w' => ∃ a nn cap, e = .returned (.slice a nn cap) ∧ Rd w' a nn (L0 ++ L1 ++ L2) ∧ nn ≤ cap ∧ cap ≤ maxLen ∧ ((a = none → nn = 0 ∧ cap = 0) ∧ Own w' W0.heap.size (.slice a nn cap) (L0 ++ L1 ++ L2)) ∧ Below W0.heap.size W0 w' := by
  subst hc
  obtain ⟨W, hW⟩ : ∃ W, W = W0.alloc (.cells #[.slice a0 n0 c0, .slice a1 n1 c1, .slice a2 n2 c2] 47) := ⟨_, rfl⟩
  have hb : Below W0.heap.size W0 W := by rw [hW]; exact (Below.refl _ _).alloc (Nat.le_refl _) _
  have hsz : W.heap.size = W0.heap.size + 1 := by rw [hW]; simp
  have hR : Rds W W0.heap.size 0 3 (fun i => if i = 0 then a0 else if i = 1 then a1 else a2) (fun i => if i = 0 then c0 else if i = 1 then c1 else c2) [L0, L1, L2] := by
    refine ⟨rfl, by omega, fun i hi => ?_⟩
    have e0 := h0.1
    have e1 := h1.1
    have e2 := h2.1
    match i, hi with
    | 0, _ => exact ⟨by rw [hW]; simp [go_sem, e0], by simpa [e0] using h0.below hb (Nat.le_refl _), by simpa [e0] using z0⟩
    | 1, _ => exact ⟨by rw [hW]; simp [go_sem, e1], by simpa [e1] using h1.below hb (Nat.le_refl _), by simpa [e1] using z1⟩
    | 2, _ => exact ⟨by rw [hW]; simp [go_sem, e2], by simpa [e2] using h2.below hb (Nat.le_refl _), by simpa [e2] using z2⟩
  rw [← hW]
  refine (concat_any W0.heap.size 0 3 3 _ _ [L0, L1, L2] W (by omega) hR (by simp [h0.1, h1.1, h2.1]; omega)).mono ?_
  rintro e w' ⟨v, rfl, hown, hb2⟩
  have ef : [L0, L1, L2].flatten = L0 ++ L1 ++ L2 := by simp
  rw [ef] at hown
  obtain ⟨a, cap, rfl, r1, r2, r3, r4⟩ := hown.rd
  exact ⟨a, _, cap, rfl, r1, r2, r3, ⟨r4, hown.lower (by omega)⟩, hb.trans (hb2.mono (by omega))⟩

/-- What Put hands back where it is right. -/
def Done (w w' : World) (L : List (Int × Int)) (e : Ending) : Prop := ∃ a nn cap, e = .returned (.tuple #[.slice a nn cap, .int .i64 0]) ∧ Rd w' a nn L ∧ nn ≤ cap ∧ cap ≤ maxLen ∧ ((a = none → nn = 0 ∧ cap = 0) ∧ Own w' w.heap.size (.slice a nn cap) L) ∧ Below w.heap.size w w'

theorem Done.mk {w w1 w2 w' : World} {L L' : List (Int × Int)} {a : Option Addr} {nn cap : Nat} (hL : L' = L) (h1 : Rd w' a nn L) (h2 : nn ≤ cap) (h3 : cap ≤ maxLen) (h4 : (a = none → nn = 0 ∧ cap = 0) ∧ Own w' w2.heap.size (.slice a nn cap) L) (b1 : Below w.heap.size w w1) (b2 : Below w1.heap.size w1 w2) (b3 : Below w2.heap.size w2 w') :
    Done w w' L' (.returned (.tuple #[.slice a nn cap, .int .i64 0])) := by
  subst hL
  have b4 := b2.trans (b3.mono b2.size)
  exact ⟨a, nn, cap, rfl, h1, h2, h3, ⟨h4.1, h4.2.lower (Nat.le_trans b1.size b2.size)⟩, b1.trans (b4.mono b1.size)⟩

set_option maxHeartbeats 4000000 in
theorem put_some (b off n cap : Nat) (l : List (Int × Int)) (key val : Int) (w : World) (hcap : n ≤ cap) (_hcm : cap ≤ maxLen) (h : Rd w (some ⟨b, off, none⟩) n l) (hb : M.asked l key = 0) (hv : -1 ≤ val) (hv2 : val ≤ 996) (hfew : (M.put key val l).length ≤ 40) :
    Calls Tryz.prog 133 #[.slice (some ⟨b, off, none⟩) n cap, .int .i64 key, .int .i64 val] w fun e w' => Done w w' (M.put key val l) e := by
  have hz := M.asked_zero hb
  have hz2 := (M.chk_zero l).1 hz.1
  have hn40 : n ≤ 40 := by rw [← h.1]; exact hz2.1
  have H := asked_any (some ⟨b, off, none⟩) n cap l key w h (by omega)
  rw [hb] at H
  have HH : Hid (Calls Tryz.prog 151 #[.slice (some ⟨b, off, none⟩) n cap, .int .i64 key] w fun e w' => e = .returned (.int .i64 0) ∧ Below w.heap.size w w') := H
  have HR : Hid (Rd w (some ⟨b, off, none⟩) n l) := h
  have HZ : Hid (M.chk l = 0) := hz.1
  have HOk : Hid (M.Ok l) := hz2.2
  have HF : Hid ((M.put key val l).length ≤ 40) := hfew
  clear H hb hz h hz2 hfew
  unfold maxLen at _hcm
  have hd : decide (val < -1) = false := by simp; omega
  go_enter Tryz.func133, Tryz.ntmps133
  go_wp2_with fail
  refine HH.out.mono ?_
  rintro e w1 ⟨rfl, hb1⟩
  have HR1 : Hid (Rd w1 (some ⟨b, off, none⟩) n l) := HR.out.below hb1 (Nat.le_refl _)
  go_wp2_with fail
  refine (place_any (some ⟨b, off, none⟩) n cap l key w1 HR1.out HZ.out).mono ?_
  rintro e w2 ⟨k, t, rfl, hat, hb2⟩
  have hb3 := hb1.trans (hb2.mono hb1.size)
  have HR2 : Hid (Rd w2 (some ⟨b, off, none⟩) n l) := HR1.out.below hb2 (Nat.le_refl _)
  have hk : k ≤ n := by have := hat.1; rw [HR2.out.1] at this; exact this
  have HAt : Hid (M.At l key k t) := hat
  clear hat hb1 hb2
  cases t with
  | true =>
    have hk1 : k < n := by have := HAt.out.yes.1; rw [HR2.out.1] at this; exact this
    by_cases hv0 : val = -1
    · have hvb : (val != -1) = false := by simp [hv0]
      have E : Hid (M.put key val l = l.take k ++ [] ++ l.drop (k + 1)) := by unfold Hid M.put M.own; rw [HAt.out.lows HOk.out, HAt.out.highs_yes HOk.out, if_pos hv0]
      clear hv0
      go_wp2_with fail
      go_quiet (fail)
      go_wp2_with fail
      all_goals (
        have R := HR2.out.below (drewN_below w2 nq) (Nat.le_refl _)
        have R2 : Rd (w2.drewN nq) (some ⟨b, off + k * 2 + 2, none⟩) (n - k - 1) (l.drop (k + 1)) := by
          have h := R.drop (k + 1)
          rwa [show off + (k + 1) * 2 = off + k * 2 + 2 by omega, show n - (k + 1) = n - k - 1 by omega] at h
        refine (concat3 (w2.drewN nq) w2.heap.size rfl _ _ _ _ _ _ _ _ _ (l.take k) [] (l.drop (k + 1)) (R.take k hk) (Rd.zero rfl rfl) (by first | exact R2 | exact Rd.zero (by omega) R2.1) (by simp) (by simp) (by simp) (by omega)).mono ?_
        rintro e w3 ⟨a', nn, cap', rfl, r1, r2, r3, r4, hb4⟩
        have F : Hid (Done w w3 (M.put key val l) (.returned (.tuple #[.slice a' nn cap', .int .i64 0]))) := Done.mk E.out r1 r2 r3 r4 hb3 (drewN_below w2 nq) hb4
        clear r1 r2 r3 r4 R R2 hb4
        go_wp2
        go_ret2
        exact F.out)
    · have hvb : (val != -1) = true := by simp [hv0]
      have E : Hid (M.put key val l = l.take k ++ [(key, val)] ++ l.drop (k + 1)) := by unfold Hid M.put M.own; rw [HAt.out.lows HOk.out, HAt.out.highs_yes HOk.out, if_neg hv0]
      clear hv0
      go_wp2_with fail
      go_quiet (fail)
      go_wp2_with fail
      all_goals (
        have R := (HR2.out.below (drewN_below w2 nq) (Nat.le_refl _)).below (w' := (w2.drewN nq).alloc (.cells #[.int .i64 key, .int .i64 val] 56)) ((Below.refl _ _).alloc (Nat.le_refl _) _) (Nat.le_refl _)
        have R2 : Rd ((w2.drewN nq).alloc (.cells #[.int .i64 key, .int .i64 val] 56)) (some ⟨b, off + k * 2 + 2, none⟩) (n - k - 1) (l.drop (k + 1)) := by
          have h := R.drop (k + 1)
          rwa [show off + (k + 1) * 2 = off + k * 2 + 2 by omega, show n - (k + 1) = n - k - 1 by omega] at h
        refine (concat3 ((w2.drewN nq).alloc (.cells #[.int .i64 key, .int .i64 val] 56)) (w2.heap.size + 1) (by simp) _ _ _ _ _ _ _ _ _ (l.take k) [(key, val)] (l.drop (k + 1)) (R.take k hk) (one_rd (w2.drewN nq) key val) (by first | exact R2 | exact Rd.zero (by omega) R2.1) (by simp) (by simp) (by simp) (by omega)).mono ?_
        rintro e w3 ⟨a', nn, cap', rfl, r1, r2, r3, r4, hb4⟩
        have F : Hid (Done w w3 (M.put key val l) (.returned (.tuple #[.slice a' nn cap', .int .i64 0]))) := Done.mk E.out r1 r2 r3 r4 hb3 ((drewN_below w2 nq).alloc (Nat.le_refl _) _) hb4
        clear r1 r2 r3 r4 R R2 hb4
        go_wp2
        go_ret2
        exact F.out)
  | false =>
    by_cases hv0 : val = -1
    · have hvb : (val != -1) = false := by simp [hv0]
      have E : Hid (M.put key val l = l.take k ++ [] ++ l.drop k) := by unfold Hid M.put M.own; rw [HAt.out.lows HOk.out, HAt.out.highs_no HOk.out, if_pos hv0]
      clear hv0
      go_wp2_with fail
      go_quiet (fail)
      go_wp2_with fail
      all_goals (
        have R := HR2.out.below (drewN_below w2 nq) (Nat.le_refl _)
        have R2 : Rd (w2.drewN nq) (some ⟨b, off + k * 2, none⟩) (n - k) (l.drop k) := by
          exact R.drop k
        refine (concat3 (w2.drewN nq) w2.heap.size rfl _ _ _ _ _ _ _ _ _ (l.take k) [] (l.drop k) (R.take k hk) (Rd.zero rfl rfl) (by first | exact R2 | exact Rd.zero (by omega) R2.1) (by simp) (by simp) (by simp) (by omega)).mono ?_
        rintro e w3 ⟨a', nn, cap', rfl, r1, r2, r3, r4, hb4⟩
        have F : Hid (Done w w3 (M.put key val l) (.returned (.tuple #[.slice a' nn cap', .int .i64 0]))) := Done.mk E.out r1 r2 r3 r4 hb3 (drewN_below w2 nq) hb4
        clear r1 r2 r3 r4 R R2 hb4
        go_wp2
        go_ret2
        exact F.out)
    · have hvb : (val != -1) = true := by simp [hv0]
      have E : Hid (M.put key val l = l.take k ++ [(key, val)] ++ l.drop k) := by unfold Hid M.put M.own; rw [HAt.out.lows HOk.out, HAt.out.highs_no HOk.out, if_neg hv0]
      have hn39 : n ≤ 39 := by
        have h := HF.out
        rw [E.out] at h
        simp only [List.length_append, List.length_take, List.length_drop, List.length_cons, List.length_nil, HR2.out.1] at h
        omega
      clear hv0
      go_wp2_with fail
      go_quiet (fail)
      go_wp2_with fail
      all_goals (
        have R := (HR2.out.below (drewN_below w2 nq) (Nat.le_refl _)).below (w' := (w2.drewN nq).alloc (.cells #[.int .i64 key, .int .i64 val] 56)) ((Below.refl _ _).alloc (Nat.le_refl _) _) (Nat.le_refl _)
        have R2 : Rd ((w2.drewN nq).alloc (.cells #[.int .i64 key, .int .i64 val] 56)) (some ⟨b, off + k * 2, none⟩) (n - k) (l.drop k) := by
          exact R.drop k
        refine (concat3 ((w2.drewN nq).alloc (.cells #[.int .i64 key, .int .i64 val] 56)) (w2.heap.size + 1) (by simp) _ _ _ _ _ _ _ _ _ (l.take k) [(key, val)] (l.drop k) (R.take k hk) (one_rd (w2.drewN nq) key val) (by first | exact R2 | exact Rd.zero (by omega) R2.1) (by simp) (by simp) (by simp) (by omega)).mono ?_
        rintro e w3 ⟨a', nn, cap', rfl, r1, r2, r3, r4, hb4⟩
        have F : Hid (Done w w3 (M.put key val l) (.returned (.tuple #[.slice a' nn cap', .int .i64 0]))) := Done.mk E.out r1 r2 r3 r4 hb3 ((drewN_below w2 nq).alloc (Nat.le_refl _) _) hb4
        clear r1 r2 r3 r4 R R2 hb4
        go_wp2
        go_ret2
        exact F.out)

set_option maxHeartbeats 1000000 in
theorem put_bad (a : Option Addr) (n cap : Nat) (l : List (Int × Int)) (key val : Int) (w : World) (h : Rd w a n l) (hm : n ≤ 9223372036854775807) (hb : M.asked l key ≠ 0) :
    Calls Tryz.prog 133 #[.slice a n cap, .int .i64 key, .int .i64 val] w fun e w' => e = .returned (.tuple #[.slice none 0 0, .int .i64 (M.asked l key)]) ∧ Below w.heap.size w w' := by
  have H := asked_any a n cap l key w h hm
  obtain ⟨c, hc⟩ : ∃ c, c = M.asked l key := ⟨_, rfl⟩
  rw [← hc] at H hb ⊢
  clear hc h
  have hne : (c != 0) = true := by simp [hb]
  clear hb
  have HH : Hid (Calls Tryz.prog 151 #[.slice a n cap, .int .i64 key] w fun e w' => e = .returned (.int .i64 c) ∧ Below w.heap.size w w') := H
  clear H
  go_enter Tryz.func133, Tryz.ntmps133
  go_wp2_with (go_at_call 151; refine HH.out.mono ?_; rintro e w' ⟨rfl, hb1⟩)
  go_ret2
  exact ⟨rfl, hb1⟩

set_option maxHeartbeats 1000000 in
theorem put_range (a : Option Addr) (n cap : Nat) (l : List (Int × Int)) (key val : Int) (w : World) (h : Rd w a n l) (hm : n ≤ 9223372036854775807) (hb : M.asked l key = 0) (hv : val < -1 ∨ 996 < val) :
    Calls Tryz.prog 133 #[.slice a n cap, .int .i64 key, .int .i64 val] w fun e w' => e = .returned (.tuple #[.slice none 0 0, .int .i64 3]) ∧ Below w.heap.size w w' := by
  have H := asked_any a n cap l key w h hm
  rw [hb] at H
  clear h hb
  have HH : Hid (Calls Tryz.prog 151 #[.slice a n cap, .int .i64 key] w fun e w' => e = .returned (.int .i64 0) ∧ Below w.heap.size w w') := H
  clear H
  rcases hv with hv | hv
  · go_enter Tryz.func133, Tryz.ntmps133
    go_wp2_with (go_at_call 151; refine HH.out.mono ?_; rintro e w' ⟨rfl, hb1⟩)
    go_ret2
    exact ⟨rfl, hb1⟩
  · have hd : decide (val < -1) = false := by simp; omega
    go_enter Tryz.func133, Tryz.ntmps133
    go_wp2_with (go_at_call 151; refine HH.out.mono ?_; rintro e w' ⟨rfl, hb1⟩)
    go_ret2
    exact ⟨rfl, hb1⟩

set_option maxHeartbeats 2000000 in
theorem put_many (b off n cap : Nat) (l : List (Int × Int)) (key val : Int) (w : World) (hcap : n ≤ cap) (_hcm : cap ≤ maxLen) (h : Rd w (some ⟨b, off, none⟩) n l) (hb : M.asked l key = 0) (hv : -1 ≤ val) (hv2 : val ≤ 996) (hmany : 40 < (M.put key val l).length) :
    Calls Tryz.prog 133 #[.slice (some ⟨b, off, none⟩) n cap, .int .i64 key, .int .i64 val] w fun e w' => e = .returned (.tuple #[.slice none 0 0, .int .i64 2]) ∧ Below w.heap.size w w' := by
  have hz := M.asked_zero hb
  have hz2 := (M.chk_zero l).1 hz.1
  have hn40 : n ≤ 40 := by rw [← h.1]; exact hz2.1
  have H := asked_any (some ⟨b, off, none⟩) n cap l key w h (by omega)
  rw [hb] at H
  have HH : Hid (Calls Tryz.prog 151 #[.slice (some ⟨b, off, none⟩) n cap, .int .i64 key] w fun e w' => e = .returned (.int .i64 0) ∧ Below w.heap.size w w') := H
  have HR : Hid (Rd w (some ⟨b, off, none⟩) n l) := h
  have HZ : Hid (M.chk l = 0) := hz.1
  have HOk : Hid (M.Ok l) := hz2.2
  have HF : Hid (40 < (M.put key val l).length) := hmany
  clear H hb hz h hz2 hmany
  unfold maxLen at _hcm
  have hd : decide (val < -1) = false := by simp; omega
  go_enter Tryz.func133, Tryz.ntmps133
  go_wp2_with fail
  refine HH.out.mono ?_
  rintro e w1 ⟨rfl, hb1⟩
  have HR1 : Hid (Rd w1 (some ⟨b, off, none⟩) n l) := HR.out.below hb1 (Nat.le_refl _)
  go_wp2_with fail
  refine (place_any (some ⟨b, off, none⟩) n cap l key w1 HR1.out HZ.out).mono ?_
  rintro e w2 ⟨k, t, rfl, hat, hb2⟩
  have hb3 := hb1.trans (hb2.mono hb1.size)
  have HR2 : Hid (Rd w2 (some ⟨b, off, none⟩) n l) := HR1.out.below hb2 (Nat.le_refl _)
  have hk : k ≤ n := by have := hat.1; rw [HR2.out.1] at this; exact this
  have HAt : Hid (M.At l key k t) := hat
  clear hat hb1 hb2
  cases t with
  | true =>
    have hk1 : k < n := by have := HAt.out.yes.1; rw [HR2.out.1] at this; exact this
    have h := HF.out
    have h2 : (M.own key val).length ≤ 1 := by unfold M.own; split <;> simp
    unfold M.put at h
    rw [HAt.out.lows HOk.out, HAt.out.highs_yes HOk.out] at h
    simp only [List.length_append, List.length_take, List.length_drop, HR2.out.1] at h
    omega
  | false =>
    have h := HF.out
    unfold M.put at h
    rw [HAt.out.lows HOk.out, HAt.out.highs_no HOk.out] at h
    simp only [List.length_append, List.length_take, List.length_drop, HR2.out.1] at h
    have h2 : (M.own key val).length ≤ 1 := by unfold M.own; split <;> simp
    have hv0 : val ≠ -1 := by
      intro e
      unfold M.own at h
      rw [if_pos e] at h
      simp at h
      omega
    have hn : 40 ≤ n := by omega
    clear h h2
    have hvb : (val != -1) = true := by simp [hv0]
    clear hv0
    go_wp2_with fail
    go_quiet (fail)
    go_wp2_with fail
    all_goals (
      go_ret2
      exact ⟨rfl, (below_drewN hb3 nq).alloc (Nat.le_trans hb3.size (Nat.le_refl _)) _⟩)

theorem at_nil {key : Int} {k : Nat} {t : Bool} (h : M.At [] key k t) : k = 0 ∧ t = false := by
  obtain ⟨h1, _, _, h4⟩ := h
  refine ⟨by simpa using h1, ?_⟩
  cases t with
  | false => rfl
  | true => have := h4.1 rfl; simp at this

set_option maxHeartbeats 2000000 in
theorem put_none (a : Option Addr) (cap : Nat) (key val : Int) (w : World) (_hcm : cap ≤ maxLen) (hnil : a = none → cap = 0) (hb : M.asked [] key = 0) (hv : -1 ≤ val) (hv2 : val ≤ 996) :
    Calls Tryz.prog 133 #[.slice a 0 cap, .int .i64 key, .int .i64 val] w fun e w' => Done w w' (M.put key val []) e := by
  have h : Rd w a 0 [] := Rd.zero rfl rfl
  have hz := M.asked_zero hb
  have H := asked_any a 0 cap [] key w h (by omega)
  rw [hb] at H
  have HH : Hid (Calls Tryz.prog 151 #[.slice a 0 cap, .int .i64 key] w fun e w' => e = .returned (.int .i64 0) ∧ Below w.heap.size w w') := H
  have HZ : Hid (M.chk [] = 0) := hz.1
  clear H hb hz h
  unfold maxLen at _hcm
  have hd : decide (val < -1) = false := by simp; omega
  have HN : Hid (a = none → cap = 0) := hnil
  clear hnil
  go_enter Tryz.func133, Tryz.ntmps133
  go_wp2_with fail
  refine HH.out.mono ?_
  rintro e w1 ⟨rfl, hb1⟩
  go_wp2_with fail
  refine (place_any a 0 cap [] key w1 (Rd.zero rfl rfl) HZ.out).mono ?_
  rintro e w2 ⟨k, t, rfl, hat, hb2⟩
  obtain ⟨rfl, rfl⟩ := at_nil hat
  have hb3 := hb1.trans (hb2.mono hb1.size)
  clear hat hb1 hb2
  cases a with
  | none =>
    obtain rfl : cap = 0 := HN.out rfl
    by_cases hv0 : val = -1
    · have hvb : (val != -1) = false := by simp [hv0]
      have E : Hid (M.put key val [] = [] ++ [] ++ []) := by unfold Hid M.put M.own; rw [if_pos hv0]; rfl
      clear hv0
      go_wp2_with fail
      go_quiet (fail)
      go_wp2_with fail
      all_goals (
        refine (concat3 (w2.drewN nq) w2.heap.size rfl _ _ _ _ _ _ _ _ _ [] [] [] (Rd.zero rfl rfl) (Rd.zero rfl rfl) (Rd.zero rfl rfl) (by simp) (by simp) (by simp) (by omega)).mono ?_
        rintro e w3 ⟨a', nn, cap', rfl, r1, r2, r3, r4, hb4⟩
        have F : Hid (Done w w3 (M.put key val []) (.returned (.tuple #[.slice a' nn cap', .int .i64 0]))) := Done.mk E.out r1 r2 r3 r4 hb3 (drewN_below w2 nq) hb4
        clear r1 r2 r3 r4 hb4
        go_wp2
        go_ret2
        exact F.out)
    · have hvb : (val != -1) = true := by simp [hv0]
      have E : Hid (M.put key val [] = [] ++ [(key, val)] ++ []) := by unfold Hid M.put M.own; rw [if_neg hv0]; rfl
      clear hv0
      go_wp2_with fail
      go_quiet (fail)
      go_wp2_with fail
      all_goals (
        refine (concat3 ((w2.drewN nq).alloc (.cells #[.int .i64 key, .int .i64 val] 56)) (w2.heap.size + 1) (by simp) _ _ _ _ _ _ _ _ _ [] [(key, val)] [] (Rd.zero rfl rfl) (one_rd (w2.drewN nq) key val) (Rd.zero rfl rfl) (by simp) (by simp) (by simp) (by omega)).mono ?_
        rintro e w3 ⟨a', nn, cap', rfl, r1, r2, r3, r4, hb4⟩
        have F : Hid (Done w w3 (M.put key val []) (.returned (.tuple #[.slice a' nn cap', .int .i64 0]))) := Done.mk E.out r1 r2 r3 r4 hb3 ((drewN_below w2 nq).alloc (Nat.le_refl _) _) hb4
        clear r1 r2 r3 r4 hb4
        go_wp2
        go_ret2
        exact F.out)
  | some ad =>
    obtain ⟨b, off, spot⟩ := ad
    by_cases hv0 : val = -1
    · have hvb : (val != -1) = false := by simp [hv0]
      have E : Hid (M.put key val [] = [] ++ [] ++ []) := by unfold Hid M.put M.own; rw [if_pos hv0]; rfl
      clear hv0
      go_wp2_with fail
      go_quiet (fail)
      go_wp2_with fail
      all_goals (
        refine (concat3 (w2.drewN nq) w2.heap.size rfl _ _ _ _ _ _ _ _ _ [] [] [] (Rd.zero rfl rfl) (Rd.zero rfl rfl) (Rd.zero rfl rfl) (by simp) (by simp) (by simp) (by omega)).mono ?_
        rintro e w3 ⟨a', nn, cap', rfl, r1, r2, r3, r4, hb4⟩
        have F : Hid (Done w w3 (M.put key val []) (.returned (.tuple #[.slice a' nn cap', .int .i64 0]))) := Done.mk E.out r1 r2 r3 r4 hb3 (drewN_below w2 nq) hb4
        clear r1 r2 r3 r4 hb4
        go_wp2
        go_ret2
        exact F.out)
    · have hvb : (val != -1) = true := by simp [hv0]
      have E : Hid (M.put key val [] = [] ++ [(key, val)] ++ []) := by unfold Hid M.put M.own; rw [if_neg hv0]; rfl
      clear hv0
      go_wp2_with fail
      go_quiet (fail)
      go_wp2_with fail
      all_goals (
        refine (concat3 ((w2.drewN nq).alloc (.cells #[.int .i64 key, .int .i64 val] 56)) (w2.heap.size + 1) (by simp) _ _ _ _ _ _ _ _ _ [] [(key, val)] [] (Rd.zero rfl rfl) (one_rd (w2.drewN nq) key val) (Rd.zero rfl rfl) (by simp) (by simp) (by simp) (by omega)).mono ?_
        rintro e w3 ⟨a', nn, cap', rfl, r1, r2, r3, r4, hb4⟩
        have F : Hid (Done w w3 (M.put key val []) (.returned (.tuple #[.slice a' nn cap', .int .i64 0]))) := Done.mk E.out r1 r2 r3 r4 hb3 ((drewN_below w2 nq).alloc (Nat.le_refl _) _) hb4
        clear r1 r2 r3 r4 hb4
        go_wp2
        go_ret2
        exact F.out)

/-- What a call hands back that answers rows and an error. -/
def Hands (w w' : World) (L : List (Int × Int)) (c : Int) (e : Ending) : Prop := ∃ a nn cap, e = .returned (.tuple #[.slice a nn cap, .int .i64 c]) ∧ Rd w' a nn L ∧ nn ≤ cap ∧ cap ≤ maxLen ∧ (a = none → nn = 0 ∧ cap = 0) ∧ Below w.heap.size w w'

theorem Hands.err {w w' : World} (c : Int) (hb : Below w.heap.size w w') : Hands w w' [] c (.returned (.tuple #[.slice none 0 0, .int .i64 c])) :=
  ⟨none, 0, 0, rfl, Rd.zero rfl rfl, Nat.le_refl _, by simp [maxLen], fun _ => ⟨rfl, rfl⟩, hb⟩

/-- .. in rows of the call's own. -/
def HandsO (w w' : World) (L : List (Int × Int)) (c : Int) (e : Ending) : Prop := ∃ a nn cap, e = .returned (.tuple #[.slice a nn cap, .int .i64 c]) ∧ Rd w' a nn L ∧ nn ≤ cap ∧ cap ≤ maxLen ∧ ((a = none → nn = 0 ∧ cap = 0) ∧ Own w' w.heap.size (.slice a nn cap) L) ∧ Below w.heap.size w w'
theorem HandsO.err {w w' : World} (c : Int) (hb : Below w.heap.size w w') : HandsO w w' [] c (.returned (.tuple #[.slice none 0 0, .int .i64 c])) :=
  ⟨none, 0, 0, rfl, Rd.zero rfl rfl, Nat.le_refl _, by simp [maxLen], ⟨fun _ => ⟨rfl, rfl⟩, World.ownsRow_nil _ _ _ _⟩, hb⟩
theorem HandsO.hands {w w' : World} {L : List (Int × Int)} {c : Int} {e : Ending} (h : HandsO w w' L c e) : Hands w w' L c e := by
  obtain ⟨a, nn, cap, h1, h2, h3, h4, h5, h6⟩ := h
  exact ⟨a, nn, cap, h1, h2, h3, h4, h5.1, h6⟩

theorem put_own (a : Option Addr) (n cap : Nat) (l : List (Int × Int)) (key val : Int) (w : World) (h : Rd w a n l) (hcap : n ≤ cap) (hcm : cap ≤ maxLen) (hnil : a = none → n = 0 ∧ cap = 0) :
    Calls Tryz.prog 133 #[.slice a n cap, .int .i64 key, .int .i64 val] w fun e w' => HandsO w w' (M.putV l key val) (M.putE l key val) e := by
  have hm : n ≤ 9223372036854775807 := by unfold maxLen at hcm; omega
  by_cases hb : M.asked l key = 0
  · by_cases hv : val < -1 ∨ 996 < val
    · have e1 := M.putE_range hb hv
      rw [M.putV_no (by omega), e1]
      refine (put_range a n cap l key val w h hm hb hv).mono ?_
      rintro e w' ⟨rfl, hb1⟩
      exact HandsO.err 3 hb1
    · by_cases hmany : 40 < (M.put key val l).length
      · have e1 := M.putE_many hb (by omega) (by omega) hmany
        rw [M.putV_no (by omega), e1]
        rcases h.cases with ⟨rfl, rfl⟩ | ⟨b, off, rfl, hn, hl, hB, hc⟩
        · exfalso
          have h2 : (M.own key val).length ≤ 1 := by unfold M.own; split <;> simp
          simp [M.put, M.lows, M.highs] at hmany
          omega
        · refine (put_many b off n cap l key val w hcap hcm h hb (by omega) (by omega) hmany).mono ?_
          rintro e w' ⟨rfl, hb1⟩
          exact HandsO.err 2 hb1
      · have e1 := M.putE_ok hb (val := val) (by omega) (by omega) (by omega)
        rw [M.putV_ok e1, e1]
        rcases h.cases with ⟨rfl, rfl⟩ | ⟨b, off, rfl, hn, hl, hB, hc⟩
        · exact put_none a cap key val w hcm (fun h => (hnil h).2) hb (by omega) (by omega)
        · exact put_some b off n cap l key val w hcap hcm h hb (by omega) (by omega) (by omega)
  · have e1 := M.putE_bad (val := val) hb
    rw [M.putV_no (by omega), e1]
    refine (put_bad a n cap l key val w h hm hb).mono ?_
    rintro e w' ⟨rfl, hb1⟩
    exact HandsO.err _ hb1
theorem put_any (a : Option Addr) (n cap : Nat) (l : List (Int × Int)) (key val : Int) (w : World) (h : Rd w a n l) (hcap : n ≤ cap) (hcm : cap ≤ maxLen) (hnil : a = none → n = 0 ∧ cap = 0) :
    Calls Tryz.prog 133 #[.slice a n cap, .int .i64 key, .int .i64 val] w fun e w' => Hands w w' (M.putV l key val) (M.putE l key val) e := (put_own a n cap l key val w h hcap hcm hnil).mono fun _ _ h => h.hands
end Go.Proofs.YtcgpgflnihjpiagGreat

/- SameRows. -/
namespace Go.Proofs.YtcgpgflnihjpiagGreat
open Go.RowKit

theorem same_len (a a2 : Option Addr) (n n2 cap cap2 : Nat) (w : World) (h : n ≠ n2) :
    Calls Tryz.prog 21 #[.slice a n cap, .slice a2 n2 cap2] w fun e w' => e = .returned (.bool false) ∧ w' = w := by
  have hb : ((n : Int) != (n2 : Int)) = true := by simp; omega
  go_enter Tryz.func21, Tryz.ntmps21
  go_wp2
  go_ret
  exact ⟨rfl, rfl⟩

theorem same_none (a a2 : Option Addr) (cap cap2 : Nat) (w : World) :
    Calls Tryz.prog 21 #[.slice a 0 cap, .slice a2 0 cap2] w fun e w' => e = .returned (.bool true) ∧ w' = w := by
  go_enter Tryz.func21, Tryz.ntmps21
  go_wp2
  refine wp_loop_rounds 1 ?_
  rw [rounds_succ]
  go_wp2
  go_ret
  exact ⟨rfl, rfl⟩

theorem eq_drop (l l2 : List (Int × Int)) (k : Nat) (h : k < l.length) (h2 : k < l2.length) : (l.drop k = l2.drop k) ↔ l.getD k (0, 0) = l2.getD k (0, 0) ∧ l.drop (k + 1) = l2.drop (k + 1) := by
  rw [M.drop_at l k h, M.drop_at l2 k h2, List.cons.injEq]

theorem ret_no {p : Prop} [Decidable p] (h : ¬ p) : Ending.returned (.bool false) = .returned (.bool (decide p)) := by rw [decide_eq_false h]
theorem ret_yes {p : Prop} [Decidable p] (h : p) : Ending.returned (.bool true) = .returned (.bool (decide p)) := by rw [decide_eq_true h]

set_option maxHeartbeats 2000000 in
theorem same_some (b off b2 off2 n cap cap2 : Nat) (l l2 : List (Int × Int)) (w : World) (hm : n ≤ 9223372036854775807) (hl : l.length = n) (hl2 : l2.length = n)
    (hc : ∀ i, i < n → w.cell? ⟨b, off + i * 2, none⟩ = some (.int .i64 (l.getD i (0, 0)).1) ∧ w.cell? ⟨b, off + i * 2 + 1, none⟩ = some (.int .i64 (l.getD i (0, 0)).2))
    (hc2 : ∀ i, i < n → w.cell? ⟨b2, off2 + i * 2, none⟩ = some (.int .i64 (l2.getD i (0, 0)).1) ∧ w.cell? ⟨b2, off2 + i * 2 + 1, none⟩ = some (.int .i64 (l2.getD i (0, 0)).2)) :
    Calls Tryz.prog 21 #[.slice (some ⟨b, off, none⟩) n cap, .slice (some ⟨b2, off2, none⟩) n cap2] w fun e w' => e = .returned (.bool (decide (l = l2))) ∧ ∃ m, w' = w.drewN m := by
  have HC : Aside (∀ i, i < n → w.cell? ⟨b, off + i * 2, none⟩ = some (.int .i64 (l.getD i (0, 0)).1) ∧ w.cell? ⟨b, off + i * 2 + 1, none⟩ = some (.int .i64 (l.getD i (0, 0)).2)) := hc
  have HC2 : Aside (∀ i, i < n → w.cell? ⟨b2, off2 + i * 2, none⟩ = some (.int .i64 (l2.getD i (0, 0)).1) ∧ w.cell? ⟨b2, off2 + i * 2 + 1, none⟩ = some (.int .i64 (l2.getD i (0, 0)).2)) := hc2
  have HL : Aside (l.length = n) := hl
  have HL2 : Aside (l2.length = n) := hl2
  clear hc hl hc2 hl2
  go_enter Tryz.func21, Tryz.ntmps21
  go_wp2
  go_loopg [5] n (fun g i wr => ∃ k m : Nat, k + g = n ∧ i = .int .i64 k ∧ wr = w.drewN m ∧ Aside (l.drop k = l2.drop k ↔ l = l2))
  case atStart => exact ⟨0, 0, by omega, rfl, rfl, by simp [Aside]⟩
  case round =>
    obtain ⟨k, m, hk, rfl, rfl, A⟩ := hrel
    by_cases hlt : k < n
    · obtain ⟨x, y, hxy⟩ : ∃ x y, l.getD k (0, 0) = (x, y) := ⟨_, _, rfl⟩
      obtain ⟨x2, y2, hxy2⟩ : ∃ x y, l2.getD k (0, 0) = (x, y) := ⟨_, _, rfl⟩
      have c0 : w.cell? ⟨b, off + k * 2, none⟩ = some (.int .i64 x) := by rw [(HC.out k hlt).1, hxy]
      have c1 : w.cell? ⟨b, off + k * 2 + 1, none⟩ = some (.int .i64 y) := by rw [(HC.out k hlt).2, hxy]
      have d0 : w.cell? ⟨b2, off2 + k * 2, none⟩ = some (.int .i64 x2) := by rw [(HC2.out k hlt).1, hxy2]
      have d1 : w.cell? ⟨b2, off2 + k * 2 + 1, none⟩ = some (.int .i64 y2) := by rw [(HC2.out k hlt).2, hxy2]
      have ed := eq_drop l l2 k (by rw [HL.out]; exact hlt) (by rw [HL2.out]; exact hlt)
      rw [hxy, hxy2, A.out] at ed
      have ED : Aside (l = l2 ↔ (x, y) = (x2, y2) ∧ l.drop (k + 1) = l2.drop (k + 1)) := ed
      clear hxy hxy2 ed A
      have hki : (k : Int) < (n : Int) := by omega
      by_cases hx : x = x2
      · have hxb : (x == x2) = true := by simp [hx]
        by_cases hy : y = y2
        · have hyb : (y == y2) = true := by simp [hy]
          have A1 : Aside (l.drop (k + 1) = l2.drop (k + 1) ↔ l = l2) := by unfold Aside; rw [ED.out]; simp [hx, hy]
          clear hx hy
          go_wp2_with fail
          go_quiet (fail)
          go_wp2
          go_roundg (gk - 1)
          case measure => omega
          case rel => exact ⟨k + 1, m + nq, by omega, by go_num, rfl, A1⟩
        · have hyb : (y == y2) = false := by simp [hy]
          have A1 : Aside (l ≠ l2) := by unfold Aside; intro e; have h := (ED.out.1 e).1; simp [hy] at h
          clear hx hy
          go_wp2_with fail
          go_quiet (fail)
          go_wp2
          go_ret
          exact ⟨ret_no A1.out, m + nq, World.drewN_drewN _ _ _⟩
      · have hxb : (x == x2) = false := by simp [hx]
        have A1 : Aside (l ≠ l2) := by unfold Aside; intro e; have h := (ED.out.1 e).1; simp [hx] at h
        clear hx
        go_wp2_with fail
        go_quiet (fail)
        go_wp2
        go_ret
        exact ⟨ret_no A1.out, m + nq, World.drewN_drewN _ _ _⟩
    · go_wp2
      go_ret
      exact ⟨ret_yes (A.out.1 (by rw [List.drop_eq_nil_of_le (by rw [HL.out]; omega), List.drop_eq_nil_of_le (by rw [HL2.out]; omega)])), m, rfl⟩

theorem same_any (a a2 : Option Addr) (n n2 cap cap2 : Nat) (l l2 : List (Int × Int)) (w : World) (h : Rd w a n l) (h2 : Rd w a2 n2 l2) (hm : n ≤ 9223372036854775807) :
    Calls Tryz.prog 21 #[.slice a n cap, .slice a2 n2 cap2] w fun e w' => e = .returned (.bool (decide (l = l2))) ∧ Below w.heap.size w w' := by
  by_cases hn : n = n2
  · subst hn
    rcases h.cases with ⟨rfl, rfl⟩ | ⟨b, off, rfl, hn, hl, hB, hc⟩
    · have e2 : l2 = [] := List.eq_nil_of_length_eq_zero h2.1
      subst e2
      refine (same_none a a2 cap cap2 w).mono ?_
      rintro e w' ⟨rfl, rfl⟩
      exact ⟨rfl, Below.refl _ _⟩
    · rcases h2.cases with ⟨rfl, rfl⟩ | ⟨b2, off2, rfl, hn2, hl2, hB2, hc2⟩
      · omega
      · refine (same_some b off b2 off2 n cap cap2 l l2 w hm hl hl2 hc hc2).mono ?_
        rintro e w' ⟨rfl, m, rfl⟩
        exact ⟨rfl, drewN_below w m⟩
  · refine (same_len a a2 n n2 cap cap2 w hn).mono ?_
    rintro e w' ⟨rfl, rfl⟩
    exact ⟨ret_no (fun e => hn (by rw [← h.1, ← h2.1, e])), Below.refl _ _⟩

theorem below2 {w a b : World} (h : Below w.heap.size w a) (k : Below a.heap.size a b) : Below w.heap.size w b := h.trans (k.mono h.size)

end Go.Proofs.YtcgpgflnihjpiagGreat

/- The valueOf of the reference. -/
namespace Go.Proofs.YtcgpgflnihjpiagGreat
open Go.RowKit

/-! ### The reference's valueOf and FindOf -/
theorem value_none (a : Option Addr) (cap : Nat) (key : Int) (w : World) :
    Calls Tryz.prog 150 #[.slice a 0 cap, .int .i64 key] w fun e w' => e = .returned (.int .i64 (-1)) ∧ w' = w := by
  go_enter Tryz.func150, Tryz.ntmps150
  go_wp2
  refine wp_loop_rounds 1 ?_
  rw [rounds_succ]
  go_wp2
  go_ret
  exact ⟨rfl, rfl⟩

set_option maxHeartbeats 1000000 in
theorem value_some (b off n cap : Nat) (l : List (Int × Int)) (key : Int) (w : World) (hn : n ≤ 40) (hl : l.length = n)
    (hc : ∀ i, i < n → w.cell? ⟨b, off + i * 2, none⟩ = some (.int .i64 (l.getD i (0, 0)).1) ∧ w.cell? ⟨b, off + i * 2 + 1, none⟩ = some (.int .i64 (l.getD i (0, 0)).2)) :
    Calls Tryz.prog 150 #[.slice (some ⟨b, off, none⟩) n cap, .int .i64 key] w fun e w' => e = .returned (.int .i64 (M.find key l)) ∧ w' = w := by
  have HC : Aside (∀ i, i < n → w.cell? ⟨b, off + i * 2, none⟩ = some (.int .i64 (l.getD i (0, 0)).1) ∧ w.cell? ⟨b, off + i * 2 + 1, none⟩ = some (.int .i64 (l.getD i (0, 0)).2)) := hc
  have HL : Aside (l.length = n) := hl
  clear hc hl
  go_enter Tryz.func150, Tryz.ntmps150
  go_wp2
  go_loopg [5] n (fun g i wr => ∃ k : Nat, k + g = n ∧ i = .int .i64 k ∧ wr = w ∧ Aside (M.find key (l.drop k) = M.find key l))
  case atStart => exact ⟨0, by omega, rfl, rfl, by simp [Aside]⟩
  case round =>
    obtain ⟨k, hk, rfl, rfl, A⟩ := hrel
    by_cases hlt : k < n
    · obtain ⟨x, y, hxy⟩ : ∃ x y, l.getD k (0, 0) = (x, y) := ⟨_, _, rfl⟩
      have c0 : wr.cell? ⟨b, off + k * 2, none⟩ = some (.int .i64 x) := by rw [(HC.out k hlt).1, hxy]
      have c1 : wr.cell? ⟨b, off + k * 2 + 1, none⟩ = some (.int .i64 y) := by rw [(HC.out k hlt).2, hxy]
      have HXY : Aside (l.getD k (0, 0) = (x, y)) := hxy
      clear hxy
      by_cases hx : x = key
      · have HX : Aside (x = key) := hx
        have hb : (x == key) = true := by simp [hx]
        clear hx
        go_wp2
        go_ret
        exact ⟨ret_int (A.out.symm.trans (M.find_here key l k (by rw [HL.out]; exact hlt) x y HXY.out HX.out)).symm, rfl⟩
      · have hb : (x == key) = false := by simp [hx]
        go_wp2
        go_roundg (gk - 1)
        case measure => omega
        case rel => exact ⟨k + 1, by omega, by go_num, rfl, by unfold Aside; rw [← A.out, M.find_step key l k (by rw [HL.out]; exact hlt) x y HXY.out hx]⟩
    · go_wp2
      go_ret
      exact ⟨ret_int (A.out.symm.trans (M.find_end key l k (by rw [HL.out]; omega))).symm, rfl⟩

theorem value_any (a : Option Addr) (n cap : Nat) (l : List (Int × Int)) (key : Int) (w : World) (h : Rd w a n l) (hn : n ≤ 40) :
    Calls Tryz.prog 150 #[.slice a n cap, .int .i64 key] w fun e w' => e = .returned (.int .i64 (M.find key l)) ∧ w' = w := by
  rcases h.cases with ⟨rfl, rfl⟩ | ⟨b, off, rfl, hn0, hl, hB, hc⟩
  · exact value_none a cap key w
  · exact value_some b off n cap l key w hn hl hc

end Go.Proofs.YtcgpgflnihjpiagGreat

/- Plain facts: what is put is found, all else is as it was; of two keys it does not matter which is put first. -/
namespace Go.Proofs.YtcgpgflnihjpiagGreat.M

theorem mem_lows {key : Int} {l : List (Int × Int)} {r : Int × Int} : r ∈ lows key l ↔ r ∈ l ∧ r.1 < key := by simp [lows]
theorem mem_highs {key : Int} {l : List (Int × Int)} {r : Int × Int} : r ∈ highs key l ↔ r ∈ l ∧ key < r.1 := by simp [highs]
theorem mem_own {key val : Int} {r : Int × Int} : r ∈ own key val ↔ val ≠ -1 ∧ r = (key, val) := by
  unfold own; split <;> simp_all
theorem mem_put {key val : Int} {l : List (Int × Int)} {r : Int × Int} : r ∈ put key val l ↔ (r ∈ l ∧ r.1 ≠ key) ∨ (val ≠ -1 ∧ r = (key, val)) := by
  unfold put
  rw [List.mem_append, List.mem_append, mem_lows, mem_highs, mem_own]
  constructor
  · rintro ((⟨h1, h2⟩ | h) | ⟨h1, h2⟩)
    · exact Or.inl ⟨h1, by omega⟩
    · exact Or.inr h
    · exact Or.inl ⟨h1, by omega⟩
  · rintro (⟨h1, h2⟩ | h)
    · rcases Int.lt_or_gt_of_ne h2 with h | h
      · exact Or.inl (Or.inl ⟨h1, h⟩)
      · exact Or.inr ⟨h1, h⟩
    · exact Or.inl (Or.inr h)

theorem put_ok {key val : Int} {l : List (Int × Int)} (ok : Ok l) (h0 : 0 ≤ key) (h1 : key ≤ 99) (v0 : -1 ≤ val) (v1 : val ≤ 996) : Ok (put key val l) := by
  refine ⟨fun r hr => ?_, ?_⟩
  · rcases mem_put.1 hr with ⟨h, _⟩ | ⟨h, rfl⟩
    · exact ok.1 r h
    · exact ⟨h0, h1, by show 0 ≤ val; omega, v1⟩
  · unfold put
    rw [List.pairwise_append, List.pairwise_append]
    refine ⟨⟨ok.2.sublist List.filter_sublist, ?_, ?_⟩, ok.2.sublist List.filter_sublist, ?_⟩
    · unfold own; split <;> simp
    · intro x hx y hy
      have h2 := (mem_lows.1 hx).2
      obtain ⟨_, rfl⟩ := mem_own.1 hy
      exact h2
    · intro x hx y hy
      have h2 := (mem_highs.1 hy).2
      rcases List.mem_append.1 hx with hx | hx
      · have := (mem_lows.1 hx).2; omega
      · obtain ⟨_, rfl⟩ := mem_own.1 hx
        exact h2

theorem find_range {key : Int} {l : List (Int × Int)} (ok : Ok l) : -1 ≤ find key l ∧ find key l ≤ 996 := by
  by_cases h : ∃ r ∈ l, r.1 = key
  · obtain ⟨r, hr, e⟩ := h
    rw [find_mem key l ok.2 r hr e]
    have := ok.1 r hr; omega
  · rw [find_none key l fun r hr e => h ⟨r, hr, e⟩]; omega

theorem find_put_same {key val : Int} {l : List (Int × Int)} (ok : Ok l) (h0 : 0 ≤ key) (h1 : key ≤ 99) (v0 : -1 ≤ val) (v1 : val ≤ 996) : find key (put key val l) = val := by
  by_cases hv : val = -1
  · rw [hv]
    refine find_none _ _ fun r hr e => ?_
    rcases mem_put.1 hr with ⟨_, h⟩ | ⟨h, _⟩
    · exact h e
    · exact h rfl
  · exact find_mem key _ (put_ok ok h0 h1 v0 v1).2 (key, val) (mem_put.2 (Or.inr ⟨hv, rfl⟩)) rfl

theorem find_put_other {key val k : Int} {l : List (Int × Int)} (ok : Ok l) (h0 : 0 ≤ key) (h1 : key ≤ 99) (v0 : -1 ≤ val) (v1 : val ≤ 996) (hk : k ≠ key) : find k (put key val l) = find k l := by
  by_cases h : ∃ r ∈ l, r.1 = k
  · obtain ⟨r, hr, e⟩ := h
    rw [find_mem k l ok.2 r hr e]
    exact find_mem k _ (put_ok ok h0 h1 v0 v1).2 r (mem_put.2 (Or.inl ⟨hr, by omega⟩)) e
  · rw [find_none k l fun r hr e => h ⟨r, hr, e⟩]
    refine find_none _ _ fun r hr e => ?_
    rcases mem_put.1 hr with ⟨hr, _⟩ | ⟨_, rfl⟩
    · exact h ⟨r, hr, e⟩
    · exact hk e.symm

/-- Two lists of right rows of which each key has the same value are the same. -/
theorem ext (a b : List (Int × Int)) (ha : Ok a) (hb : Ok b) (h : ∀ k, find k a = find k b) : a = b := by
  induction a generalizing b with
  | nil =>
    cases b with
    | nil => rfl
    | cons r t =>
      have h1 := h r.1
      rw [find, find, if_pos rfl] at h1
      have := hb.1 r (by simp); omega
  | cons q s ih =>
    cases b with
    | nil =>
      have h1 := h q.1
      rw [find, find, if_pos rfl] at h1
      have := ha.1 q (by simp); omega
    | cons r t =>
      have hq := ha.1 q (by simp)
      have hr := hb.1 r (by simp)
      have e1 : q.1 = r.1 := by
        rcases Int.lt_trichotomy q.1 r.1 with hlt | he | hgt
        · have h1 := h q.1
          rw [find, if_pos rfl, find_none q.1 (r :: t)] at h1
          · omega
          · intro x hx
            rcases List.mem_cons.1 hx with rfl | hx
            · omega
            · have := hb.head x hx; omega
        · exact he
        · have h1 := h r.1
          rw [find_none r.1 (q :: s), find, if_pos rfl] at h1
          · omega
          · intro x hx
            rcases List.mem_cons.1 hx with rfl | hx
            · omega
            · have := ha.head x hx; omega
      have e2 : q.2 = r.2 := by
        have h1 := h q.1
        rw [find, if_pos rfl, find, if_pos e1.symm] at h1
        exact h1
      have e : q = r := Prod.ext e1 e2
      subst e
      rw [ih t ha.tail hb.tail fun k => ?_]
      by_cases hk : q.1 = k
      · subst hk
        rw [find_none q.1 s fun x hx => by have := ha.head x hx; omega, find_none q.1 t fun x hx => by have := hb.head x hx; omega]
      · have h1 := h k
        rwa [find, if_neg hk, find, if_neg hk] at h1

/-- Of two keys it does not matter which is put first. -/
theorem put_comm {a u b v : Int} {l : List (Int × Int)} (ok : Ok l) (a0 : 0 ≤ a) (a1 : a ≤ 99) (u0 : -1 ≤ u) (u1 : u ≤ 996) (b0 : 0 ≤ b) (b1 : b ≤ 99) (v0 : -1 ≤ v) (v1 : v ≤ 996) (hab : a ≠ b) : put b v (put a u l) = put a u (put b v l) := by
  have oa := put_ok ok a0 a1 u0 u1
  have ob := put_ok ok b0 b1 v0 v1
  refine ext _ _ (put_ok oa b0 b1 v0 v1) (put_ok ob a0 a1 u0 u1) fun k => ?_
  by_cases h1 : k = a
  · subst h1
    rw [find_put_other oa b0 b1 v0 v1 hab, find_put_same ok a0 a1 u0 u1, find_put_same ob a0 a1 u0 u1]
  · by_cases h2 : k = b
    · subst h2
      rw [find_put_same oa b0 b1 v0 v1, find_put_other ob a0 a1 u0 u1 h1, find_put_same ok b0 b1 v0 v1]
    · rw [find_put_other oa b0 b1 v0 v1 h2, find_put_other ok a0 a1 u0 u1 h1, find_put_other ob a0 a1 u0 u1 h1, find_put_other ok b0 b1 v0 v1 h2]

/-- Put as it was, nothing has changed. -/
theorem put_back {a u : Int} {l : List (Int × Int)} (ok : Ok l) (a0 : 0 ≤ a) (a1 : a ≤ 99) (u0 : -1 ≤ u) (u1 : u ≤ 996) : put a (find a l) (put a u l) = l := by
  have oa := put_ok ok a0 a1 u0 u1
  have hr := find_range (key := a) ok
  refine ext _ _ (put_ok oa a0 a1 hr.1 hr.2) ok fun k => ?_
  by_cases h1 : k = a
  · subst h1; rw [find_put_same oa a0 a1 hr.1 hr.2]
  · rw [find_put_other oa a0 a1 hr.1 hr.2 h1, find_put_other ok a0 a1 u0 u1 h1]

/-- What is so where two puts are right. -/
theorem two_puts {l : List (Int × Int)} {a u b v : Int} (h1 : putE l a u = 0) (h2 : putE l b v = 0) :
    asked l a = 0 ∧ asked (put a u l) a = 0 ∧ asked l b = 0 ∧ asked (put a u l) b = 0 ∧ putE (put a u l) a (find a l) = 0 ∧ find a (put a u l) = u ∧ (a ≠ b → find b (put a u l) = find b l) ∧ put a (find a l) (put a u l) = l ∧
    (a ≠ b → putE (put a u l) b v = putE (put b v l) a u ∧ putV (put a u l) b v = putV (put b v l) a u) := by
  obtain ⟨s1, s2, s3, s4⟩ := putE_zero h1
  obtain ⟨t1, t2, t3, t4⟩ := putE_zero h2
  obtain ⟨c, a0, a1⟩ := asked_zero s1
  obtain ⟨_, b0, b1⟩ := asked_zero t1
  have hz := (chk_zero l).1 c
  have ok := hz.2
  have oa := put_ok ok a0 a1 s2 s3
  have ob := put_ok ok b0 b1 t2 t3
  have hr := find_range (key := a) ok
  have ca : chk (put a u l) = 0 := (chk_zero _).2 ⟨s4, oa⟩
  have cb : chk (put b v l) = 0 := (chk_zero _).2 ⟨t4, ob⟩
  have hback := put_back ok a0 a1 s2 s3
  refine ⟨s1, asked_ok ca a0 a1, t1, asked_ok ca b0 b1, putE_ok (asked_ok ca a0 a1) hr.1 hr.2 (by rw [hback]; exact hz.1), find_put_same ok a0 a1 s2 s3, fun hab => find_put_other ok a0 a1 s2 s3 (Ne.symm hab), hback, fun hab => ?_⟩
  have hc := put_comm ok a0 a1 s2 s3 b0 b1 t2 t3 hab
  have he : putE (put a u l) b v = putE (put b v l) a u := by
    by_cases h40 : 40 < (put b v (put a u l)).length
    · rw [putE_many (asked_ok ca b0 b1) t2 t3 h40, putE_many (asked_ok cb a0 a1) s2 s3 (by rw [← hc]; exact h40)]
    · rw [putE_ok (asked_ok ca b0 b1) t2 t3 (by omega), putE_ok (asked_ok cb a0 a1) s2 s3 (by rw [← hc]; omega)]
  refine ⟨he, ?_⟩
  unfold putV
  rw [he, hc]

end Go.Proofs.YtcgpgflnihjpiagGreat.M
