/- A pen: Bytes, Pairs, Text, Written. -/
import Derived.Test.YtcgpgflnihjpiafGreatBLogRecovers05
import Derived.Test.YtcgpgflnihjpiafGreatBLogRecovers03
import Derived.Test.YtcgpgflnihjpiafGreatBLogRecovers01
import Derived.Test.YtcgpgflnihjpiafGreatBLogRecovers02
import Derived.Lib.Bytealg
import Derived.Shelf.Abstract
import Derived.Shelf.SlSortCmp.SmallK
import Derived.Lib.OthersKept
import Derived.Lib.SliceRun
namespace Go.Proofs.YtcgpgflnihjpiafGreat
open Go.RowKit Go.Lib

/-- Numbers that lie in a block of their own stay whatever is put. -/
theorem ri_kept {w w' : World} {k : Nat} {ns : List Int} (h : w.heap[k]? = some (.cells (ns.map (Value.int .i64)).toArray 3 (0, 0))) (hk : Kp w w') : Ri w' (some ⟨k, 0, none⟩) ns.length ns := by
  have h1 := hk k _ _ (by decide) (by decide) h
  refine ⟨rfl, Or.inr ⟨k, 0, rfl, (Array.getElem?_eq_some_iff.1 h1).1, fun i hi => ?_⟩⟩
  rw [cell_of_row _ _ _ _ _ _ h1]
  simp [List.getD, hi]

set_option maxRecDepth 100000 in
set_option maxHeartbeats 4000000 in
theorem pbytes_any (b base : Nat) (l : M.By) (ov : Bool) (a : Option Addr) (m cap : Nat) (ns : List Int) (w : World) (hP : PenAt w base b l ov) (hr : ∀ w', Below base w w' → Kp w w' → Ri w' a m ns) (hm : m ≤ 1000) (hll : l.length ≤ 400000) :
    Calls Tryz.prog 60 #[.pointer (some ⟨b, 0, none⟩), .slice a m cap] w fun e w' => (∃ v, e = .returned v) ∧ PenAt w' base b (M.pnL false (l, ov) ns).1 (M.pnL false (l, ov) ns).2 ∧ Below base w w' ∧ Kp w w' := by
  have K := pput1_any b base l ov a m cap ns w hP hr hm (fun k => by
    have h1 := M.pnL_len false (l, ov) (ns.take k)
    have h2 : (ns.take k).length ≤ m := by rw [← (hr w (Below.refl _ _) (Kp.refl _)).1, List.length_take]; omega
    simp only at h1
    omega)
  have HK : Hid (Calls Tryz.prog 107 #[.pointer (some ⟨b, 0, none⟩), .int .i64 256, .slice a m cap] w fun e w' => (∃ v, e = .returned v) ∧ PenAt w' base b (M.pnL false (l, ov) ns).1 (M.pnL false (l, ov) ns).2 ∧ Below base w w' ∧ Kp w w') := K
  clear K hP hr
  go_enter Tryz.func60, Tryz.ntmps60
  go_wp2_with fail
  refine HK.out.mono ?_
  rintro e w1 ⟨⟨v, rfl⟩, h1, h2, h3⟩
  have H1 : Hid (PenAt _ _ _ _ _) := h1
  clear h1
  go_wp2
  go_end0
  exact ⟨⟨_, rfl⟩, H1.out, h2, h3⟩
set_option maxRecDepth 100000 in
set_option maxHeartbeats 4000000 in
theorem ppairs_any (b base : Nat) (l : M.By) (ov : Bool) (a : Option Addr) (m cap : Nat) (ns : List Int) (w : World) (hP : PenAt w base b l ov) (hr : ∀ w', Below base w w' → Kp w w' → Ri w' a m ns) (hm : m ≤ 1000) (hll : l.length ≤ 400000) :
    Calls Tryz.prog 62 #[.pointer (some ⟨b, 0, none⟩), .slice a m cap] w fun e w' => (∃ v, e = .returned v) ∧ PenAt w' base b (M.pnL true (l, ov) ns).1 (M.pnL true (l, ov) ns).2 ∧ Below base w w' ∧ Kp w w' := by
  have K := pput2_any b base l ov a m cap ns w hP hr hm (fun k => by
    have h1 := M.pnL_len true (l, ov) (ns.take k)
    have h2 : (ns.take k).length ≤ m := by rw [← (hr w (Below.refl _ _) (Kp.refl _)).1, List.length_take]; omega
    simp only at h1
    omega)
  have HK : Hid (Calls Tryz.prog 107 #[.pointer (some ⟨b, 0, none⟩), .int .i64 65536, .slice a m cap] w fun e w' => (∃ v, e = .returned v) ∧ PenAt w' base b (M.pnL true (l, ov) ns).1 (M.pnL true (l, ov) ns).2 ∧ Below base w w' ∧ Kp w w') := K
  clear K hP hr
  go_enter Tryz.func62, Tryz.ntmps62
  go_wp2_with fail
  refine HK.out.mono ?_
  rintro e w1 ⟨⟨v, rfl⟩, h1, h2, h3⟩
  have H1 : Hid (PenAt _ _ _ _ _) := h1
  clear h1
  go_wp2
  go_end0
  exact ⟨⟨_, rfl⟩, H1.out, h2, h3⟩

theorem strCells_b8 (s : M.By) : strCells (M.str s) = b8 s := by
  simp [strCells, M.str, b8]
/-- A text's bytes are appended. -/
theorem append_text {w : World} {ops : Array Oper} {rest : List Oper} {o : Oper} {a : Act} {Q : Exit → Act → World → Prop} (hgd : o.guard = none) (s x : Operand)
    (ho : o.op = .call { callee := .builtin .append, args := #[s, x], argTypes := #[100, 9] })
    (base : Nat) (v : Value) (l t : M.By) (hs : a.eval s = v) (hx : a.eval x = .string (M.str t)) (hown : OwnB w base v l)
    (hbig : l.length + t.length ≤ 1000000) (hbase : base ≤ w.heap.size)
    (h : ∀ v' w', OwnB w' base v' (l ++ t) → w.grownBy w' v.ownBlock → wpList Tryz.prog ops Q rest (a.put o.dst v') w') : wpList Tryz.prog ops Q (o :: rest) a w := by
  obtain ⟨i0, hi, hz0, hz1, hz2⟩ := info_parts infoU8
  obtain ⟨v', w', hrun, ho', hg, _⟩ := run_append_own_string (P := Tryz.prog) w base 100 9 o.type 5 i0 (by kernel_rfl) (by kernel_rfl) hi hz0 hz1 hz2 v l.length (b8 l) hown (M.str t) (by rw [M.str_size]; unfold maxLen; omega) (by rw [M.str_size]; omega) hbase
  have hk := h v' w' (by unfold OwnB; rw [b8_append, List.length_append]; rw [M.str_size, strCells_b8] at ho'; exact ho') hg
  refine wpList_plain hgd fun K hK => ?_
  unfold Oper.wp execOp
  simp only [ho, resolve, invoke, builtin, Sem.run_bind, Sem.run_pure, Result.andThen_ok, List.map_toArray, List.map_cons, List.map_nil, hs, hx, hrun]
  exact hK _ _ hk

set_option maxRecDepth 100000 in
set_option maxHeartbeats 8000000 in
theorem ptext_any (b base : Nat) (l : M.By) (ov : Bool) (s : M.By) (w : World) (hP : PenAt w base b l ov) (hs : s.length ≤ 9223372036854775807) (hll : l.length ≤ 300000) :
    Calls Tryz.prog 61 #[.pointer (some ⟨b, 0, none⟩), .string (M.str s)] w fun e w' => (∃ v, e = .returned v) ∧ PenAt w' base b (M.pnT (l, ov) s).1 (M.pnT (l, ov) s).2 ∧ Below base w w' ∧ Kp w w' := by
  have hbb : base ≤ b := by obtain ⟨_, _, h, _⟩ := hP; exact h
  have hbs : base ≤ w.heap.size := Nat.le_trans hbb (Nat.le_of_lt hP.lt)
  obtain ⟨W, hW⟩ : ∃ W, W = w.alloc (.cells #[.int .i64 (s.length : Int)] 3) := ⟨_, rfl⟩
  have hb0 : Below w.heap.size w W := by rw [hW]; exact (Below.refl _ _).alloc (Nat.le_refl _) _
  have hW0 : W.heap[w.heap.size]? = some (.cells #[.int .i64 (s.length : Int)] 3 (0, 0)) := by rw [hW]; exact heap_alloc_new _ _
  have K := pbytes_any b base l ov (some ⟨w.heap.size, 0, none⟩) 1 1 [(s.length : Int)] W (hP.later hb0) (fun w' _ hk => ri_kept hW0 hk) (by omega) (by omega)
  have HK : Hid (Calls Tryz.prog 60 #[.pointer (some ⟨b, 0, none⟩), .slice (some ⟨w.heap.size, 0, none⟩) 1 1] W fun e w' => (∃ v, e = .returned v) ∧ PenAt w' base b (M.pnS false (l, ov) (s.length : Int)).1 (M.pnS false (l, ov) (s.length : Int)).2 ∧ Below base W w' ∧ Kp W w') := K
  have HW : Hid (W = w.alloc (.cells #[.int .i64 (s.length : Int)] 3)) := hW
  have hbel : Below base w W := hb0.mono hbs
  have hkp : Kp w W := Kp.of hb0
  obtain ⟨str, hstr⟩ : ∃ str, str = M.str s := ⟨_, rfl⟩
  have hsz : str.size = s.length := by rw [hstr, M.str_size]
  have HS : Hid (str = M.str s) := hstr
  rw [← hstr]
  obtain ⟨sl, hsl⟩ : ∃ sl, sl = s.length := ⟨_, rfl⟩
  have HSl : Hid (sl = s.length) := hsl
  have hsl8 : sl ≤ 9223372036854775807 := by omega
  rw [← hsl] at hsz HK HW
  have hlen := M.pnS_len false (l, ov) (sl : Int)
  have HT : Hid (M.pnT (l, ov) s = if (M.pnS false (l, ov) (sl : Int)).2 = true then M.pnS false (l, ov) (sl : Int) else ((M.pnS false (l, ov) (sl : Int)).1 ++ s, false)) := by rw [hsl]; rfl
  have HB : Hid ((M.pnS false (l, ov) (sl : Int)).2 = false → sl < 256) := M.pnS_small
  generalize M.pnS false (l, ov) (sl : Int) = st at *
  obtain ⟨l1, o1⟩ := st
  simp only at hlen
  clear K hP hW hstr hsl hs hb0 hW0
  go_enter Tryz.func61, Tryz.ntmps61
  go_wp2_with fail
  rw [← HW.out]
  refine HK.out.mono ?_
  rintro e w1 ⟨⟨v, rfl⟩, h1, h2, h3⟩
  obtain ⟨v1, blk, _, ob⟩ := h1
  obtain ⟨va, vn, vc, rfl⟩ : ∃ va vn vc, v1 = .slice va vn vc := by
    rcases ob.2 with ⟨e, _⟩ | ⟨g, c, _, e, _⟩
    · exact ⟨_, _, _, e⟩
    · exact ⟨_, _, _, e⟩
  have c0 : w1.cell? ⟨b, 0, none⟩ = some (.slice va vn vc) := by rw [cell_of_row _ _ _ _ _ _ blk]; rfl
  have c1 : w1.cell? ⟨b, 1, none⟩ = some (.bool o1) := by rw [cell_of_row _ _ _ _ _ _ blk]; rfl
  have hbw1 := hbel.trans h2
  have hkw1 := hkp.trans h3
  have Hblk : Hid (w1.heap[b]? = some (.cells #[.slice va vn vc, .bool o1] 102 (0, 0))) := blk
  have Hob : Hid (OwnB w1 base (.slice va vn vc) l1) := ob
  have hbs1 : base ≤ w1.heap.size := Nat.le_trans hbs hbw1.size
  clear h2 h3 blk ob hbel hkp HK
  cases o1 with
  | true =>
    go_wp2
    go_end0
    refine ⟨⟨_, rfl⟩, ?_, hbw1, hkw1⟩
    rw [HT.out]
    exact ⟨_, Hblk.out, hbb, Hob.out⟩
  | false =>
    have hs2 : sl < 256 := HB.out rfl
    rw [HS.out]
    have hbig : l1.length + s.length ≤ 1000000 := by rw [← HSl.out]; omega
    go_wp2_with (at_builtin; refine append_text rfl _ _ rfl base _ l1 s rfl rfl Hob.out hbig hbs1 ?_)
    intro v8 w8 o8 g8
    obtain ⟨qa, qn, qc, rfl⟩ : ∃ qa qn qc, v8 = .slice qa qn qc := by
      rcases o8.2 with ⟨e, _⟩ | ⟨g, c, _, e, _⟩
      · exact ⟨_, _, _, e⟩
      · exact ⟨_, _, _, e⟩
    obtain ⟨P1, P2, P3, P4⟩ := PenAt.put (m := s) Hblk.out hbb Hob.out hbs1 g8 o8
    have k8 : w8.cell? ⟨b, 0, none⟩ = some (.slice va vn vc) := by rw [cell_of_row _ _ _ _ _ _ P2]; rfl
    have f8 : w8.frozen? ⟨b, 0, none⟩ = false := frozen_of_row _ _ _ _ _ P2
    have HP1 : Hid (PenAt (w8.setCell ⟨b, 0, none⟩ (.slice qa qn qc)) base b (l1 ++ s) false) := P1
    have HP3 : Hid (Below base w (w8.setCell ⟨b, 0, none⟩ (.slice qa qn qc))) := hbw1.trans P3
    have HP4 : Hid (Kp w (w8.setCell ⟨b, 0, none⟩ (.slice qa qn qc))) := hkw1.trans P4
    clear P1 P2 P3 P4 o8 g8 c0 c1
    go_wp2
    go_end0
    refine ⟨⟨_, rfl⟩, ?_, HP3.out, HP4.out⟩
    rw [HT.out]
    exact HP1.out

set_option maxRecDepth 100000 in
set_option maxHeartbeats 8000000 in
theorem written_any (b base : Nat) (l : M.By) (ov : Bool) (w : World) (hP : PenAt w base b l ov) :
    Calls Tryz.prog 63 #[.pointer (some ⟨b, 0, none⟩)] w fun e w' => e = .returned (.tuple #[.string (M.str (if ov = true then [] else l)), .int .i64 (if ov = true then 3 else 0)]) ∧ Below w.heap.size w w' := by
  obtain ⟨v1, blk, _, ob⟩ := hP
  obtain ⟨va, vn, vc, rfl⟩ : ∃ va vn vc, v1 = .slice va vn vc := by
    rcases ob.2 with ⟨e, _⟩ | ⟨g, c, _, e, _⟩
    · exact ⟨_, _, _, e⟩
    · exact ⟨_, _, _, e⟩
  have c0 : w.cell? ⟨b, 0, none⟩ = some (.slice va vn vc) := by rw [cell_of_row _ _ _ _ _ _ blk]; rfl
  have c1 : w.cell? ⟨b, 1, none⟩ = some (.bool ov) := by rw [cell_of_row _ _ _ _ _ _ blk]; rfl
  have hcv : (convert 100 9 (.slice va vn vc)).run Tryz.prog w = .ok (.string (M.str l)) w := by
    rcases ob.2 with ⟨e, e2⟩ | ⟨g, c, cur, e, hg, hgb, h4, h5, h6, h7⟩
    · simp at e
      obtain ⟨rfl, rfl, rfl⟩ := e
      obtain rfl : l = [] := List.eq_nil_of_length_eq_zero (by simpa using e2)
      exact run_convert_nil_bytes w _ _ 5 _ (by kernel_rfl) (by kernel_rfl) (by kernel_rfl)
    · simp at e
      obtain ⟨rfl, rfl, rfl⟩ := e
      refine run_convert_bytes_back w _ _ 5 _ _ l (by kernel_rfl) (by kernel_rfl) (by kernel_rfl) (fun j hj => ?_)
      have hj2 : j < cur.size := by have := congrArg List.length h7; simp [b8] at this; omega
      rw [Addr.add_lit, cell_of_row _ _ _ _ _ _ hgb]
      have h8 : (cur.toList.take (l.length * 1))[j]? = (b8 l)[j]? := by rw [h7]
      rw [List.getElem?_take_of_lt (by omega)] at h8
      simp [b8, hj] at h8
      simpa using h8
  clear blk ob
  go_enter Tryz.func63, Tryz.ntmps63
  cases ov with
  | true =>
    go_wp2
    go_ret2
    exact ⟨by simp [M.str], Below.refl _ _⟩
  | false =>
    go_wp2
    go_ret2
    exact ⟨by simp, Below.refl _ _⟩
end Go.Proofs.YtcgpgflnihjpiafGreat

/- A pen: a number, a text, in a block of its own. -/
namespace Go.Proofs.YtcgpgflnihjpiafGreat
open Go.RowKit

theorem PenAt.base {w : World} {base b : Nat} {l : M.By} {ov : Bool} (h : PenAt w base b l ov) : base ≤ w.heap.size := by
  have := h.lt
  obtain ⟨_, _, h2, _⟩ := h
  omega
/-- One number of a byte, in a block of its own. -/
theorem pbyte1_any (b base : Nat) (l : M.By) (ov : Bool) (n : Int) (w : World) (hP : PenAt w base b l ov) (hll : l.length ≤ 400000) :
    Calls Tryz.prog 60 #[.pointer (some ⟨b, 0, none⟩), .slice (some ⟨w.heap.size, 0, none⟩) 1 1] (w.alloc (.cells #[.int .i64 n] 3)) fun e w' => (∃ v, e = .returned v) ∧ PenAt w' base b (M.pnL false (l, ov) [n]).1 (M.pnL false (l, ov) [n]).2 ∧ Below base w w' ∧ Kp w w' := by
  have hb0 : Below w.heap.size w (w.alloc (.cells #[.int .i64 n] 3)) := (Below.refl _ _).alloc (Nat.le_refl _) _
  have hW0 : (w.alloc (.cells #[.int .i64 n] 3)).heap[w.heap.size]? = some (.cells (([n] : List Int).map (Value.int .i64)).toArray 3 (0, 0)) := heap_alloc_new _ _
  refine (pbytes_any b base l ov (some ⟨w.heap.size, 0, none⟩) 1 1 [n] _ (hP.later hb0) (fun w' _ hk => ri_kept hW0 hk) (by omega) hll).mono ?_
  rintro e w1 ⟨h1, h2, h3, h4⟩
  exact ⟨h1, h2, (hb0.mono hP.base).trans h3, (Kp.of hb0).trans h4⟩
/-- Two numbers of two bytes. -/
theorem ppair2_any (b base : Nat) (l : M.By) (ov : Bool) (n k : Int) (w : World) (hP : PenAt w base b l ov) (hll : l.length ≤ 400000) :
    Calls Tryz.prog 62 #[.pointer (some ⟨b, 0, none⟩), .slice (some ⟨w.heap.size, 0, none⟩) 2 2] (w.alloc (.cells #[.int .i64 n, .int .i64 k] 3)) fun e w' => (∃ v, e = .returned v) ∧ PenAt w' base b (M.pnL true (l, ov) [n, k]).1 (M.pnL true (l, ov) [n, k]).2 ∧ Below base w w' ∧ Kp w w' := by
  have hb0 : Below w.heap.size w (w.alloc (.cells #[.int .i64 n, .int .i64 k] 3)) := (Below.refl _ _).alloc (Nat.le_refl _) _
  have hW0 : (w.alloc (.cells #[.int .i64 n, .int .i64 k] 3)).heap[w.heap.size]? = some (.cells (([n, k] : List Int).map (Value.int .i64)).toArray 3 (0, 0)) := heap_alloc_new _ _
  refine (ppairs_any b base l ov (some ⟨w.heap.size, 0, none⟩) 2 2 [n, k] _ (hP.later hb0) (fun w' _ hk => ri_kept hW0 hk) (by omega) hll).mono ?_
  rintro e w1 ⟨h1, h2, h3, h4⟩
  exact ⟨h1, h2, (hb0.mono hP.base).trans h3, (Kp.of hb0).trans h4⟩
/-- One number of two bytes. -/
theorem ppair1_any (b base : Nat) (l : M.By) (ov : Bool) (n : Int) (w : World) (hP : PenAt w base b l ov) (hll : l.length ≤ 400000) :
    Calls Tryz.prog 62 #[.pointer (some ⟨b, 0, none⟩), .slice (some ⟨w.heap.size, 0, none⟩) 1 1] (w.alloc (.cells #[.int .i64 n] 3)) fun e w' => (∃ v, e = .returned v) ∧ PenAt w' base b (M.pnL true (l, ov) [n]).1 (M.pnL true (l, ov) [n]).2 ∧ Below base w w' ∧ Kp w w' := by
  have hb0 : Below w.heap.size w (w.alloc (.cells #[.int .i64 n] 3)) := (Below.refl _ _).alloc (Nat.le_refl _) _
  have hW0 : (w.alloc (.cells #[.int .i64 n] 3)).heap[w.heap.size]? = some (.cells (([n] : List Int).map (Value.int .i64)).toArray 3 (0, 0)) := heap_alloc_new _ _
  refine (ppairs_any b base l ov (some ⟨w.heap.size, 0, none⟩) 1 1 [n] _ (hP.later hb0) (fun w' _ hk => ri_kept hW0 hk) (by omega) hll).mono ?_
  rintro e w1 ⟨h1, h2, h3, h4⟩
  exact ⟨h1, h2, (hb0.mono hP.base).trans h3, (Kp.of hb0).trans h4⟩
end Go.Proofs.YtcgpgflnihjpiafGreat

/- log.Write. -/
namespace Go.Proofs.YtcgpgflnihjpiafGreat
open Go.RowKit

/-- One more than a number, as the machine adds it: it can stand, or can not, alike. -/
theorem pnS_wrap (st : M.By × Bool) {n : Int} (h : M.inI n) : M.pnS true st (IntKind.i64.wrap (n + 1)) = M.pnS true st (n + 1) := by
  obtain ⟨h1, h2⟩ := h
  by_cases h3 : n = 9223372036854775807
  · subst h3
    have e : IntKind.i64.wrap (9223372036854775807 + 1) = -9223372036854775808 := by rw [IntKind.wrap_i64]; omega
    rw [e]
    unfold M.pnS M.pnB
    simp
  · have e : IntKind.i64.wrap (n + 1) = n + 1 := by rw [IntKind.wrap_i64]; omega
    rw [e]
theorem wC_wrap (st : M.By × Bool) (c : M.Chg) (h : M.inI c.2.1 ∧ M.inI c.2.2) : M.pnL true (M.pnL false st [c.1]) [IntKind.i64.wrap (c.2.1 + 1), IntKind.i64.wrap (c.2.2 + 1)] = M.wC st c := by
  show M.pnS true (M.pnS true _ _) _ = M.pnS true (M.pnS true _ _) _
  rw [pnS_wrap _ h.1, pnS_wrap _ h.2]

set_option maxRecDepth 100000 in
set_option maxHeartbeats 8000000 in
theorem write_any (x : M.Act) (a : Option Addr) (m cap : Nat) (w : World) (hrc : Rc w a m x.chs) (hm : m ≤ 9223372036854775807) (h1 : x.one.length ≤ 9223372036854775807) (h2 : x.two.length ≤ 9223372036854775807) (hrg : ∀ c ∈ x.chs, M.inI c.2.1 ∧ M.inI c.2.2) :
    Calls Tryz.prog 21 #[actV x a m cap] w fun e w' => e = .returned (.tuple #[.string (M.str (if (M.wA x).2 = true then [] else (M.wA x).1)), .int .i64 (if (M.wA x).2 = true then 3 else 0)]) ∧ Below w.heap.size w w' := by
  obtain ⟨p, hp⟩ : ∃ p, p = w.heap.size := ⟨_, rfl⟩
  obtain ⟨W1, hW1⟩ : ∃ W1, W1 = w.alloc (.cells #[.int .i64 x.kind, .string (M.str x.one), .string (M.str x.two), .slice a m cap] 28) := ⟨_, rfl⟩
  obtain ⟨W, hW⟩ : ∃ W, W = W1.alloc (.cells #[.slice none 0 0, .bool false] 102) := ⟨_, rfl⟩
  have hb1 : Below w.heap.size w W1 := by rw [hW1]; exact (Below.refl _ _).alloc (Nat.le_refl _) _
  have hb2 : Below W1.heap.size W1 W := by rw [hW]; exact (Below.refl _ _).alloc (Nat.le_refl _) _
  have hs1 : W1.heap.size = p + 1 := by rw [hW1, hp]; simp
  have hb : Below w.heap.size w W := hb1.trans (hb2.mono (by rw [hs1, hp]; omega))
  have HP0 : PenAt W (p + 1) (p + 1) [] false := by
    refine ⟨.slice none 0 0, ?_, Nat.le_refl _, ⟨rfl, Or.inl ⟨rfl, rfl⟩⟩⟩
    rw [hW, ← hs1]; exact heap_alloc_new _ _
  have hW10 : W1.heap[p]? = some (.cells #[.int .i64 x.kind, .string (M.str x.one), .string (M.str x.two), .slice a m cap] 28 (0, 0)) := by rw [hW1, hp]; exact heap_alloc_new _ _
  have HA : Hid (∀ V, Below (p + 1) W V → V.heap[p]? = some (.cells #[.int .i64 x.kind, .string (M.str x.one), .string (M.str x.two), .slice a m cap] 28 (0, 0))) := fun V hV => by
    rw [hV.block p (by omega), hb2.block p (by omega)]; exact hW10
  have hbp : ∀ V, Below (p + 1) W V → Below w.heap.size w V := fun V hV => hb.trans (hV.mono (by rw [← hp]; omega))
  have HRc : Hid (∀ V, Below (p + 1) W V → Rc V a m x.chs) := fun V hV => hrc.below (hbp V hV) (Nat.le_refl _)
  have HBp : Hid (∀ V, Below (p + 1) W V → Below w.heap.size w V) := hbp
  have HRg : Hid (∀ c ∈ x.chs, M.inI c.2.1 ∧ M.inI c.2.2) := hrg
  have HWn : Hid (∀ k, ((x.chs.take k).foldl M.wC (M.wA4 x)).1.length ≤ 10000) := M.wA_len x
  have hchl : x.chs.length = m := hrc.1
  have HLn : Aside (x.chs.length = m) := hchl
  have hl1 : (M.pnL false ([], false) [x.kind]).1.length ≤ 2 := M.pnL_len false ([], false) [x.kind]
  have hl2 := M.pnT_len (M.pnL false ([], false) [x.kind]) x.one
  have hl3 := M.pnT_len (M.pnT (M.pnL false ([], false) [x.kind]) x.one) x.two
  have H4 : Hid (M.wA4 x = M.pnL false (M.pnT (M.pnT (M.pnL false ([], false) [x.kind]) x.one) x.two) [(m : Int)]) := by rw [← hchl]; rfl
  have HWA : Hid (M.wA x = x.chs.foldl M.wC (M.wA4 x)) := rfl
  obtain ⟨s1, e1⟩ : ∃ s, s = M.pnL false ([], false) [x.kind] := ⟨_, rfl⟩
  obtain ⟨s2, e2⟩ : ∃ s, s = M.pnT s1 x.one := ⟨_, rfl⟩
  obtain ⟨s3, e3⟩ : ∃ s, s = M.pnT s2 x.two := ⟨_, rfl⟩
  rw [← e1] at hl1 hl2 hl3 H4
  rw [← e2] at hl2 hl3 H4
  rw [← e3] at hl3 H4
  have K1 := pbyte1_any (p + 1) (p + 1) [] false x.kind W HP0 (by simp)
  rw [← e1] at K1
  have K2 : ∀ V, PenAt V (p + 1) (p + 1) s1.1 s1.2 → Calls Tryz.prog 61 #[.pointer (some ⟨p + 1, 0, none⟩), .string (M.str x.one)] V fun e w' => (∃ v, e = .returned v) ∧ PenAt w' (p + 1) (p + 1) s2.1 s2.2 ∧ Below (p + 1) V w' ∧ Kp V w' := fun V hV => by
    rw [e2]; exact ptext_any (p + 1) (p + 1) s1.1 s1.2 x.one V hV h1 (by omega)
  have K3 : ∀ V, PenAt V (p + 1) (p + 1) s2.1 s2.2 → Calls Tryz.prog 61 #[.pointer (some ⟨p + 1, 0, none⟩), .string (M.str x.two)] V fun e w' => (∃ v, e = .returned v) ∧ PenAt w' (p + 1) (p + 1) s3.1 s3.2 ∧ Below (p + 1) V w' ∧ Kp V w' := fun V hV => by
    rw [e3]; exact ptext_any (p + 1) (p + 1) s2.1 s2.2 x.two V hV h2 (by omega)
  have K4 : ∀ V, PenAt V (p + 1) (p + 1) s3.1 s3.2 → Calls Tryz.prog 60 #[.pointer (some ⟨p + 1, 0, none⟩), .slice (some ⟨V.heap.size, 0, none⟩) 1 1] (V.alloc (.cells #[.int .i64 (m : Int)] 3)) fun e w' => (∃ v, e = .returned v) ∧ PenAt w' (p + 1) (p + 1) (M.wA4 x).1 (M.wA4 x).2 ∧ Below (p + 1) V w' ∧ Kp V w' := fun V hV => by
    rw [H4.out]; exact pbyte1_any (p + 1) (p + 1) s3.1 s3.2 m V hV (by omega)
  have HK1 : Hid (Calls Tryz.prog 60 #[.pointer (some ⟨p + 1, 0, none⟩), .slice (some ⟨W.heap.size, 0, none⟩) 1 1] (W.alloc (.cells #[.int .i64 x.kind] 3)) fun e w' => (∃ v, e = .returned v) ∧ PenAt w' (p + 1) (p + 1) s1.1 s1.2 ∧ Below (p + 1) W w' ∧ Kp W w') := K1
  have HK2 : Hid (∀ V, PenAt V (p + 1) (p + 1) s1.1 s1.2 → Calls Tryz.prog 61 #[.pointer (some ⟨p + 1, 0, none⟩), .string (M.str x.one)] V fun e w' => (∃ v, e = .returned v) ∧ PenAt w' (p + 1) (p + 1) s2.1 s2.2 ∧ Below (p + 1) V w' ∧ Kp V w') := K2
  have HK3 : Hid (∀ V, PenAt V (p + 1) (p + 1) s2.1 s2.2 → Calls Tryz.prog 61 #[.pointer (some ⟨p + 1, 0, none⟩), .string (M.str x.two)] V fun e w' => (∃ v, e = .returned v) ∧ PenAt w' (p + 1) (p + 1) s3.1 s3.2 ∧ Below (p + 1) V w' ∧ Kp V w') := K3
  have HK4 : Hid (∀ V, PenAt V (p + 1) (p + 1) s3.1 s3.2 → Calls Tryz.prog 60 #[.pointer (some ⟨p + 1, 0, none⟩), .slice (some ⟨V.heap.size, 0, none⟩) 1 1] (V.alloc (.cells #[.int .i64 (m : Int)] 3)) fun e w' => (∃ v, e = .returned v) ∧ PenAt w' (p + 1) (p + 1) (M.wA4 x).1 (M.wA4 x).2 ∧ Below (p + 1) V w' ∧ Kp V w') := K4
  have HW : Hid (W = (w.alloc (.cells #[.int .i64 x.kind, .string (M.str x.one), .string (M.str x.two), .slice a m cap] 28)).alloc (.cells #[.slice none 0 0, .bool false] 102)) := by rw [← hW1]; exact hW
  have hWs : W.heap.size = p + 1 + 1 := by rw [hW]; simp [hs1]
  rw [hWs] at HK1
  have HP : Aside (p = w.heap.size) := hp
  have blk := HA.out W (Below.refl _ _)
  have j0 : W.cell? ⟨p, 0, none⟩ = some (.int .i64 x.kind) := by rw [cell_of_row _ _ _ _ _ _ blk]; rfl
  rw [HW.out, HP.out] at j0
  obtain ⟨so8, hso8⟩ : ∃ so8, so8 = M.str (if (M.wA x).2 = true then [] else (M.wA x).1) := ⟨_, rfl⟩
  obtain ⟨e8, he8⟩ : ∃ e8 : Int, e8 = if (M.wA x).2 = true then 3 else 0 := ⟨_, rfl⟩
  rw [← hso8, ← he8]
  have H8 : Hid (so8 = M.str (if (M.wA x).2 = true then [] else (M.wA x).1)) := hso8
  have H9 : Hid (e8 = if (M.wA x).2 = true then 3 else 0) := he8
  unfold actV
  obtain ⟨kd, hkd⟩ : ∃ kd, kd = x.kind := ⟨_, rfl⟩
  obtain ⟨so, hso⟩ : ∃ so, so = M.str x.one := ⟨_, rfl⟩
  obtain ⟨st, hst⟩ : ∃ st, st = M.str x.two := ⟨_, rfl⟩
  rw [← hkd, ← hso, ← hst] at HA HW j0 ⊢
  rw [← hkd] at HK1
  rw [← hso] at HK2
  rw [← hst] at HK3
  clear hso8 he8 hkd hso hst blk K1 K2 K3 K4 e1 e2 e3 hl1 hl2 hl3 hrc hrg hchl hbp h1 h2 HP0 hW10 hW hW1 hb hb1 hb2 hs1 hp hWs
  go_enter Tryz.func21, Tryz.ntmps21
  go_wp2_with fail
  rw [← HW.out, ← HP.out]
  refine HK1.out.mono ?_
  rintro e w1 ⟨⟨v1, rfl⟩, q1, b1, _⟩
  have HQ1 : Hid (PenAt w1 (p + 1) (p + 1) s1.1 s1.2) := q1
  have blk := HA.out w1 b1
  clear j0
  have j1 : w1.cell? ⟨p, 1, none⟩ = some (.string so) := by rw [cell_of_row _ _ _ _ _ _ blk]; rfl
  clear blk q1
  go_wp2_with fail
  refine (HK2.out w1 HQ1.out).mono ?_
  rintro e w2 ⟨⟨v2, rfl⟩, q2, b2, _⟩
  have HQ2 : Hid (PenAt w2 (p + 1) (p + 1) s2.1 s2.2) := q2
  have c2 := b1.trans b2
  have blk := HA.out w2 c2
  clear j1
  have j2 : w2.cell? ⟨p, 2, none⟩ = some (.string st) := by rw [cell_of_row _ _ _ _ _ _ blk]; rfl
  clear blk q2 b1 b2
  go_wp2_with fail
  refine (HK3.out w2 HQ2.out).mono ?_
  rintro e w3 ⟨⟨v3, rfl⟩, q3, b3, _⟩
  have HQ3 : Hid (PenAt w3 (p + 1) (p + 1) s3.1 s3.2) := q3
  have c3 := c2.trans b3
  have blk := HA.out w3 c3
  clear j2
  have j3 : w3.cell? ⟨p, 3, none⟩ = some (.slice a m cap) := by rw [cell_of_row _ _ _ _ _ _ blk]; rfl
  clear blk q3 b3 c2
  go_wp2_with fail
  refine (HK4.out w3 HQ3.out).mono ?_
  rintro e w4 ⟨⟨v4, rfl⟩, q4, b4, _⟩
  have HQ4 : Aside (PenAt w4 (p + 1) (p + 1) (M.wA4 x).1 (M.wA4 x).2) := q4
  have c4 := c3.trans b4
  have blk := HA.out w4 c4
  clear j3
  have j4 : w4.cell? ⟨p, 3, none⟩ = some (.slice a m cap) := by rw [cell_of_row _ _ _ _ _ _ blk]; rfl
  clear blk q4 b4 c3 HK1 HK2 HK3 HK4
  go_wp2_with fail
  go_loopg [31] m (fun g i wr => ∃ k : Nat, k + g = m ∧ i = .int .i64 k ∧ Aside (PenAt wr (p + 1) (p + 1) ((x.chs.take k).foldl M.wC (M.wA4 x)).1 ((x.chs.take k).foldl M.wC (M.wA4 x)).2) ∧ Below (p + 1) W wr)
  case atStart => exact ⟨0, by omega, rfl, HQ4, c4⟩
  case round =>
    obtain ⟨k, hk, rfl, HPk, hbel⟩ := hrel
    clear j4
    by_cases hkm : k < m
    · have hki : (k : Int) < (m : Int) := by omega
      have hkn : k < x.chs.length := by rw [HLn.out]; exact hkm
      obtain ⟨ab, ao, rfl, hab, hc⟩ : ∃ ab ao, a = some ⟨ab, ao, none⟩ ∧ ab < wr.heap.size ∧ (wr.cell? ⟨ab, ao + k * 3, none⟩ = some (.int .i64 (x.chs.getD k (0, 0, 0)).1) ∧ wr.cell? ⟨ab, ao + k * 3 + 1, none⟩ = some (.int .i64 (x.chs.getD k (0, 0, 0)).2.1) ∧ wr.cell? ⟨ab, ao + k * 3 + 2, none⟩ = some (.int .i64 (x.chs.getD k (0, 0, 0)).2.2)) := by
        rcases (HRc.out wr hbel).cases with ⟨h0, _⟩ | ⟨ab, ao, e, _, _, hB, hc⟩
        · omega
        · exact ⟨ab, ao, e, hB, hc k hkm⟩
      have hmem : x.chs.getD k (0, 0, 0) ∈ x.chs := by
        have : x.chs.getD k (0, 0, 0) = x.chs[k] := by simp [List.getD, hkn]
        rw [this]; exact List.getElem_mem hkn
      have hst := M.wC_take (M.wA4 x) x.chs k hkn
      have hrg := HRg.out _ hmem
      obtain ⟨c, hcc⟩ : ∃ c, c = x.chs.getD k (0, 0, 0) := ⟨_, rfl⟩
      rw [← hcc] at hc hst hrg
      rw [← wC_wrap _ _ hrg] at hst
      obtain ⟨x0, x1, x2⟩ := c
      obtain ⟨ck, c1, c2⟩ := hc
      simp only at ck c1 c2 hst
      obtain ⟨z1, hz1⟩ : ∃ z, z = IntKind.i64.wrap (x1 + 1) := ⟨_, rfl⟩
      obtain ⟨z2, hz2⟩ : ∃ z, z = IntKind.i64.wrap (x2 + 1) := ⟨_, rfl⟩
      rw [← hz1, ← hz2] at hst
      have y1 : wrap64 (x1 + 1) = z1 := by rw [hz1]; exact (IntWalk.i64_left _).symm
      have y2 : wrap64 (x2 + 1) = z2 := by rw [hz2]; exact (IntWalk.i64_left _).symm
      have hlk : ((x.chs.take k).foldl M.wC (M.wA4 x)).1.length ≤ 10000 := HWn.out k
      generalize (x.chs.take k).foldl M.wC (M.wA4 x) = sk at *
      obtain ⟨lk, ok⟩ := sk
      simp only at hlk HPk
      obtain ⟨W5, hW5⟩ : ∃ W5, W5 = wr.alloc (.cells #[.int .i64 x0, .int .i64 x1, .int .i64 x2] 69) := ⟨_, rfl⟩
      have hb5 : Below wr.heap.size wr W5 := by rw [hW5]; exact (Below.refl _ _).alloc (Nat.le_refl _) _
      have h50 : W5.heap[wr.heap.size]? = some (.cells #[.int .i64 x0, .int .i64 x1, .int .i64 x2] 69 (0, 0)) := by rw [hW5]; exact heap_alloc_new _ _
      have HC5 : Hid (∀ V, Kp W5 V → V.heap[wr.heap.size]? = some (.cells #[.int .i64 x0, .int .i64 x1, .int .i64 x2] 69 (0, 0))) := fun V hV => hV _ _ _ (by decide) (by decide) h50
      have hbel5 : Below (p + 1) W W5 := hbel.trans (hb5.mono HPk.out.base)
      have hl5 := M.pnL_len false (lk, ok) [x0]
      have hw5s : W5.heap.size = wr.heap.size + 1 := by rw [hW5]; simp
      obtain ⟨s5, hs5⟩ : ∃ s, s = M.pnL false (lk, ok) [x0] := ⟨_, rfl⟩
      rw [← hs5] at hst hl5
      have K5 := pbyte1_any (p + 1) (p + 1) lk ok x0 W5 (HPk.out.later hb5) (by omega)
      rw [← hs5, hw5s] at K5
      have HK5 : Hid (Calls Tryz.prog 60 #[.pointer (some ⟨p + 1, 0, none⟩), .slice (some ⟨wr.heap.size + 1, 0, none⟩) 1 1] (W5.alloc (.cells #[.int .i64 x0] 3)) fun e w' => (∃ v, e = .returned v) ∧ PenAt w' (p + 1) (p + 1) s5.1 s5.2 ∧ Below (p + 1) W5 w' ∧ Kp W5 w') := K5
      have HK6 : Hid (∀ V, PenAt V (p + 1) (p + 1) s5.1 s5.2 → Calls Tryz.prog 62 #[.pointer (some ⟨p + 1, 0, none⟩), .slice (some ⟨V.heap.size, 0, none⟩) 2 2] (V.alloc (.cells #[.int .i64 z1, .int .i64 z2] 3)) fun e w' => (∃ v, e = .returned v) ∧ PenAt w' (p + 1) (p + 1) (M.pnL true s5 [z1, z2]).1 (M.pnL true s5 [z1, z2]).2 ∧ Below (p + 1) V w' ∧ Kp V w') := fun V hV =>
        ppair2_any (p + 1) (p + 1) s5.1 s5.2 _ _ V hV (by simp at hl5; omega)
      have HSt : Hid ((x.chs.take (k + 1)).foldl M.wC (M.wA4 x) = M.pnL true s5 [z1, z2]) := hst
      have d0 : W5.cell? ⟨wr.heap.size, 0, none⟩ = some (.int .i64 x0) := by rw [cell_of_row _ _ _ _ _ _ h50]; rfl
      have HW5 : Hid (W5 = wr.alloc (.cells #[.int .i64 x0, .int .i64 x1, .int .i64 x2] 69)) := hW5
      rw [hW5] at d0
      clear hz1 hz2 hst hs5 hcc hl5 K5 h50 hb5 hW5 hmem hrg hw5s hlk
      go_wp2_with fail
      rw [← HW5.out]
      refine HK5.out.mono ?_
      rintro e w6 ⟨⟨v6, rfl⟩, q6, b6, k6⟩
      have blk := HC5.out w6 k6
      have d1 : w6.cell? ⟨wr.heap.size, 1, none⟩ = some (.int .i64 x1) := by rw [cell_of_row _ _ _ _ _ _ blk]; rfl
      have d2 : w6.cell? ⟨wr.heap.size, 2, none⟩ = some (.int .i64 x2) := by rw [cell_of_row _ _ _ _ _ _ blk]; rfl
      have HQ6 : Hid (PenAt w6 (p + 1) (p + 1) s5.1 s5.2) := q6
      have c6 := hbel5.trans b6
      clear blk q6 b6 k6 ck c1 c2 d0
      go_wp2_with fail
      refine (HK6.out w6 HQ6.out).mono ?_
      rintro e w7 ⟨⟨v7, rfl⟩, q7, b7, _⟩
      rw [← HSt.out] at q7
      have HQ7 : Aside (PenAt w7 (p + 1) (p + 1) ((x.chs.take (k + 1)).foldl M.wC (M.wA4 x)).1 ((x.chs.take (k + 1)).foldl M.wC (M.wA4 x)).2) := q7
      have c7 := c6.trans b7
      clear q7 b7 d1 d2 HK5 HK6
      go_wp2
      go_roundg (gk - 1)
      case measure => omega
      case rel => exact ⟨k + 1, by omega, by go_num, HQ7, c7⟩
    · obtain rfl : k = m := by omega
      have hkk2 : decide ((k : Int) < (k : Int)) = false := by simp
      have e1 : x.chs.take k = x.chs := List.take_of_length_le (by rw [HLn.out]; exact Nat.le_refl _)
      have K8 := written_any (p + 1) (p + 1) _ _ wr HPk.out
      rw [e1, ← HWA.out] at K8
      rw [← H8.out, ← H9.out] at K8
      have HK8 : Hid (Calls Tryz.prog 63 #[.pointer (some ⟨p + 1, 0, none⟩)] wr fun e w' => e = .returned (.tuple #[.string so8, .int .i64 e8]) ∧ Below wr.heap.size wr w') := K8
      have hpb : p + 1 ≤ wr.heap.size := HPk.out.base
      clear e1 K8
      go_wp2_with fail
      refine HK8.out.mono ?_
      rintro e w9 ⟨rfl, b9⟩
      have c9 := HBp.out _ (hbel.trans (b9.mono hpb))
      clear b9
      go_wp2
      go_ret2
      exact ⟨rfl, c9⟩
end Go.Proofs.YtcgpgflnihjpiafGreat

/- The commits of cross. -/
namespace Go.Proofs.YtcgpgflnihjpiafGreat
open Go.RowKit

theorem dbelow2 {w a b : World} (h : Below w.heap.size w a) (k : Below a.heap.size a b) : Below w.heap.size w b := h.trans (k.mono h.size)
def dfew : List (Int × Int) := [(2, 5), (7, 0), (9, 30)]
theorem dfew_any (w : World) : Calls Tryz.prog 117 #[] w fun e w' => e = .returned (.slice (some ⟨w.heap.size, 0, none⟩) 3 3) ∧ Rd w' (some ⟨w.heap.size, 0, none⟩) 3 dfew ∧ Below w.heap.size w w' := by
  go_enter Tryz.func117, Tryz.ntmps117
  go_wp2
  go_ret
  refine ⟨rfl, ⟨rfl, Or.inr ⟨w.heap.size, 0, rfl, by simp, fun i hi => ?_⟩⟩, (Below.refl _ _).alloc (Nat.le_refl _) _⟩
  match i, hi with
  | 0, _ => constructor <;> simp [go_sem, dfew]
  | 1, _ => constructor <;> simp [go_sem, dfew]
  | 2, _ => constructor <;> simp [go_sem, dfew]

def crossL : List M.Com := [([], []), (dfew, [0]), ([], [0]), ([], [1, 2]), ([], [1, 2]), ([], [])]
def crossX : List M.Com := [([], []), (dfew, [1]), ([], [0]), ([], [1, 2]), ([], [1, 2]), ([], [])]
def crossC (f b1 b2 b3 b4 : Nat) : Array Value :=
  #[.slice none 0 0, .slice none 0 0, .slice (some ⟨f, 0, none⟩) 3 3, .slice (some ⟨b1, 0, none⟩) 1 1, .slice none 0 0, .slice (some ⟨b2, 0, none⟩) 1 1,
    .slice none 0 0, .slice (some ⟨b3, 0, none⟩) 2 2, .slice none 0 0, .slice (some ⟨b4, 0, none⟩) 2 2, .slice none 0 0, .slice none 0 0]
/-- Where the commits of cross lie. -/
def CrossAt (w : World) (g : Nat) : Prop := ∃ f b1 b2 b3 b4, w.heap[g]? = some (.cells (crossC f b1 b2 b3 b4) 51 (0, 0)) ∧ f < g ∧ b1 < g ∧ b2 < g ∧ b3 < g ∧ b4 < g ∧
  Rd w (some ⟨f, 0, none⟩) 3 dfew ∧ Ri w (some ⟨b1, 0, none⟩) 1 [0] ∧ Ri w (some ⟨b2, 0, none⟩) 1 [0] ∧ Ri w (some ⟨b3, 0, none⟩) 2 [1, 2] ∧ Ri w (some ⟨b4, 0, none⟩) 2 [1, 2]
theorem CrossAt.below {w w' : World} {g : Nat} (h : CrossAt w g) (hb : Below w.heap.size w w') : CrossAt w' g := by
  obtain ⟨f, b1, b2, b3, b4, h1, k1, k2, k3, k4, k5, r1, r2, r3, r4, r5⟩ := h
  exact ⟨f, b1, b2, b3, b4, (hb.block g (Array.getElem?_eq_some_iff.1 h1).1).trans h1, k1, k2, k3, k4, k5, r1.below hb (Nat.le_refl _), r2.below hb (Nat.le_refl _), r3.below hb (Nat.le_refl _), r4.below hb (Nat.le_refl _), r5.below hb (Nat.le_refl _)⟩
theorem rd_nil (w : World) (a : Option Addr) : Rd w a 0 [] := ⟨rfl, Or.inl rfl⟩
theorem ri_nil (w : World) (a : Option Addr) : Ri w a 0 [] := ⟨rfl, Or.inl rfl⟩
theorem CrossAt.lt {w : World} {g : Nat} (h : CrossAt w g) : g < w.heap.size := by
  obtain ⟨f, b1, b2, b3, b4, h1, _⟩ := h
  exact (Array.getElem?_eq_some_iff.1 h1).1
theorem CrossAt.cm {w : World} {g : Nat} (h : CrossAt w g) : Cm w (some ⟨g, 0, none⟩) 6 crossL := by
  have hlt := h.lt
  obtain ⟨f, b1, b2, b3, b4, h1, k1, k2, k3, k4, k5, r1, r2, r3, r4, r5⟩ := h
  refine ⟨rfl, Or.inr ⟨g, 0, rfl, hlt, fun i hi => ?_⟩⟩
  rw [cell_of_row w g _ _ _ _ h1, cell_of_row w g _ _ _ _ h1]
  match i, hi with
  | 0, _ => exact ⟨_, _, _, _, _, _, rfl, rfl, rd_nil _ _, ri_nil _ _, by omega, by omega⟩
  | 1, _ => exact ⟨_, _, _, _, _, _, rfl, rfl, r1, r2, by omega, by omega⟩
  | 2, _ => exact ⟨_, _, _, _, _, _, rfl, rfl, rd_nil _ _, r3, by omega, by omega⟩
  | 3, _ => exact ⟨_, _, _, _, _, _, rfl, rfl, rd_nil _ _, r4, by omega, by omega⟩
  | 4, _ => exact ⟨_, _, _, _, _, _, rfl, rfl, rd_nil _ _, r5, by omega, by omega⟩
  | 5, _ => exact ⟨_, _, _, _, _, _, rfl, rfl, rd_nil _ _, ri_nil _ _, by omega, by omega⟩
theorem Rd.at {w w' : World} {b n B : Nat} {l : List (Int × Int)} (h : Rd w (some ⟨b, 0, none⟩) n l) (hb : b < B) (hB : Below B w w') : Rd w' (some ⟨b, 0, none⟩) n l := by
  obtain ⟨h1, h2⟩ := h
  refine ⟨h1, ?_⟩
  rcases h2 with h2 | ⟨b', off', ha, hlt, hc⟩
  · exact Or.inl h2
  · cases ha
    refine Or.inr ⟨b, 0, rfl, Nat.lt_of_lt_of_le hlt hB.size, fun i hi => ?_⟩
    rw [hB.cell (p := ⟨b, 0 + i * 2, none⟩) hb, hB.cell (p := ⟨b, 0 + i * 2 + 1, none⟩) hb]
    exact hc i hi
theorem Ri.at {w w' : World} {b n B : Nat} {l : List Int} (h : Ri w (some ⟨b, 0, none⟩) n l) (hb : b < B) (hB : Below B w w') : Ri w' (some ⟨b, 0, none⟩) n l := by
  obtain ⟨h1, h2⟩ := h
  refine ⟨h1, ?_⟩
  rcases h2 with h2 | ⟨b', off', ha, hlt, hc⟩
  · exact Or.inl h2
  · cases ha
    refine Or.inr ⟨b, 0, rfl, Nat.lt_of_lt_of_le hlt hB.size, fun i hi => ?_⟩
    rw [hB.cell (p := ⟨b, 0 + i, none⟩) hb]
    exact hc i hi
/-- With other parents of the second. -/
theorem CrossAt.poke {w : World} {g : Nat} (h : CrossAt w g) :
    Cm ((w.alloc (.cells #[.int .i64 1] 3)).setCell ⟨g, 3, none⟩ (.slice (some ⟨w.heap.size, 0, none⟩) 1 1)) (some ⟨g, 0, none⟩) 6 crossX := by
  have hlt := h.lt
  obtain ⟨f, b1, b2, b3, b4, h1, k1, k2, k3, k4, k5, r1, r2, r3, r4, r5⟩ := h.below ((Below.refl w.heap.size w).alloc (Nat.le_refl _) (.cells #[.int .i64 1] 3))
  have hb : Below g (w.alloc (.cells #[.int .i64 1] 3)) ((w.alloc (.cells #[.int .i64 1] 3)).setCell ⟨g, 3, none⟩ (.slice (some ⟨w.heap.size, 0, none⟩) 1 1)) := (Below.refl _ _).setCell (p := ⟨g, 3, none⟩) (Nat.le_refl _) _
  have h2 := heap_setCell_same _ g 3 _ _ (.slice (some ⟨w.heap.size, 0, none⟩) 1 1) h1
  have hnew : Ri ((w.alloc (.cells #[.int .i64 1] 3)).setCell ⟨g, 3, none⟩ (.slice (some ⟨w.heap.size, 0, none⟩) 1 1)) (some ⟨w.heap.size, 0, none⟩) 1 [1] := by
    refine ⟨rfl, Or.inr ⟨w.heap.size, 0, rfl, by simp [World.setCell], fun i hi => ?_⟩⟩
    have e := heap_setCell_other (w.alloc (.cells #[.int .i64 1] 3)) ⟨g, 3, none⟩ w.heap.size (.slice (some ⟨w.heap.size, 0, none⟩) 1 1) (by show w.heap.size ≠ g; omega)
    rw [World.cell?_of_block (a := ⟨w.heap.size, 0 + i, none⟩) e]
    exact ri_one w 1 i hi
  refine ⟨rfl, Or.inr ⟨g, 0, rfl, by simp [World.setCell]; omega, fun i hi => ?_⟩⟩
  rw [cell_of_row _ g _ _ _ _ h2, cell_of_row _ g _ _ _ _ h2]
  match i, hi with
  | 0, _ => exact ⟨_, _, _, _, _, _, rfl, rfl, rd_nil _ _, ri_nil _ _, by omega, by omega⟩
  | 1, _ => exact ⟨_, _, _, _, _, _, rfl, rfl, r1.at k1 hb, hnew, by omega, by omega⟩
  | 2, _ => exact ⟨_, _, _, _, _, _, rfl, rfl, rd_nil _ _, r3.at k3 hb, by omega, by omega⟩
  | 3, _ => exact ⟨_, _, _, _, _, _, rfl, rfl, rd_nil _ _, r4.at k4 hb, by omega, by omega⟩
  | 4, _ => exact ⟨_, _, _, _, _, _, rfl, rfl, rd_nil _ _, r5.at k5 hb, by omega, by omega⟩
  | 5, _ => exact ⟨_, _, _, _, _, _, rfl, rfl, rd_nil _ _, ri_nil _ _, by omega, by omega⟩

theorem cross_any (w : World) : Calls Tryz.prog 82 #[] w fun e w' => ∃ g, e = .returned (.slice (some ⟨g, 0, none⟩) 6 6) ∧ w.heap.size ≤ g ∧ CrossAt w' g ∧ Below w.heap.size w w' := by
  go_enter Tryz.func82, Tryz.ntmps82
  go_wp2_with fail
  refine (dfew_any _).mono ?_
  rintro e w1 ⟨rfl, r, hb⟩
  have R : Hid (Rd w1 (some ⟨w.heap.size, 0, none⟩) 3 dfew) := r
  have hs := hb.size
  have hlt : w.heap.size < w1.heap.size := by
    rcases r.2 with h | ⟨b, off, e, hl, _⟩
    · omega
    · cases e; exact hl
  clear r
  go_wp2
  go_ret
  have hbW := ((((hb.alloc hs (.cells #[.int .i64 0] 3)).alloc (by simp; omega) (.cells #[.int .i64 0] 3)).alloc (by simp; omega) (.cells #[.int .i64 1, .int .i64 2] 3)).alloc (by simp; omega) (.cells #[.int .i64 1, .int .i64 2] 3)).alloc (by simp; omega) (.cells (crossC w.heap.size w1.heap.size (w1.heap.size + 1) (w1.heap.size + 1 + 1) (w1.heap.size + 1 + 1 + 1)) 51)
  have hbR := (((((Below.refl w1.heap.size w1).alloc (Nat.le_refl _) (.cells #[.int .i64 0] 3)).alloc (by simp) (.cells #[.int .i64 0] 3)).alloc (by simp; omega) (.cells #[.int .i64 1, .int .i64 2] 3)).alloc (by simp; omega) (.cells #[.int .i64 1, .int .i64 2] 3)).alloc (by simp; omega) (.cells (crossC w.heap.size w1.heap.size (w1.heap.size + 1) (w1.heap.size + 1 + 1) (w1.heap.size + 1 + 1 + 1)) 51)
  refine ⟨w1.heap.size + 1 + 1 + 1 + 1, rfl, by omega, ⟨w.heap.size, w1.heap.size, w1.heap.size + 1, w1.heap.size + 1 + 1, w1.heap.size + 1 + 1 + 1, ?_, by omega, by omega, by omega, by omega, by omega, R.out.below hbR (Nat.le_refl _), ⟨rfl, Or.inr ⟨_, 0, rfl, by simp <;> omega, fun i hi => ?_⟩⟩, ⟨rfl, Or.inr ⟨_, 0, rfl, by simp <;> omega, fun i hi => ?_⟩⟩, ⟨rfl, Or.inr ⟨_, 0, rfl, by simp <;> omega, fun i hi => ?_⟩⟩, ⟨rfl, Or.inr ⟨_, 0, rfl, by simp <;> omega, fun i hi => ?_⟩⟩⟩, hbW⟩
  · rw [show w1.heap.size + 1 + 1 + 1 + 1 = ((((w1.alloc (.cells #[.int .i64 0] 3)).alloc (.cells #[.int .i64 0] 3)).alloc (.cells #[.int .i64 1, .int .i64 2] 3)).alloc (.cells #[.int .i64 1, .int .i64 2] 3)).heap.size by simp]
    exact heap_alloc_new _ _
  · obtain rfl : i = 0 := by omega
    simp [go_sem]
  · obtain rfl : i = 0 := by omega
    simp [go_sem]
  · match i, hi with
    | 0, _ => simp [go_sem]
    | 1, _ => simp [go_sem]
  · match i, hi with
    | 0, _ => simp [go_sem]
    | 1, _ => simp [go_sem]
end Go.Proofs.YtcgpgflnihjpiafGreat

/- strings.Compare; how Branch's sort compares heads. -/
namespace Go.Proofs.YtcgpgflnihjpiafGreat
open Go.RowKit Go.Shelf

def M.cmpS (s t : ByteArray) : Int := Lib.compareBytes s.data.toList t.data.toList

set_option maxRecDepth 100000 in
theorem comps_any (a b : ByteArray) (w : World) :
    Calls Tryz.prog 116 #[.string a, .string b] w fun e w' => e = .returned (.int .i64 (M.cmpS a b)) ∧ w' = w := by
  go_enter Tryz.func116, Tryz.ntmps116
  go_wp2
  rw [run_callFunc_extern Tryz.func141 (by kernel_rfl) (by kernel_rfl) (by kernel_rfl) (e := Extern.BytealgCompare.compare) (by kernel_rfl), Lib.run_compareString]
  simp only [Result.andThen]
  rw [Oper.upon_value]
  go_wp2
  go_ret
  exact ⟨rfl, rfl⟩

theorem scompare_any (a b : ByteArray) (w : World) :
    Calls Tryz.prog 79 #[.string a, .string b] w fun e w' => e = .returned (.int .i64 (M.cmpS a b)) ∧ w' = w := by
  go_enter Tryz.func79, Tryz.ntmps79
  go_wp2_with (go_at_call 116; refine (comps_any _ _ _).mono ?_; rintro e w' ⟨rfl, rfl⟩)
  go_ret
  exact ⟨rfl, rfl⟩

theorem branch4_any (x y : M.Hd) (w : World) :
    Calls Tryz.prog 78 #[.agg #[.string x.1, .int .i64 x.2], .agg #[.string y.1, .int .i64 y.2]] w fun e w' => e = .returned (.int .i64 (M.cmpS x.1 y.1)) ∧ w' = (w.alloc (.cells #[.string x.1, .int .i64 x.2] 71)).alloc (.cells #[.string y.1, .int .i64 y.2] 71) := by
  obtain ⟨s, i⟩ := x
  obtain ⟨t, j⟩ := y
  go_enter Tryz.func78, Tryz.ntmps78
  go_wp2_with (go_at_call 79; refine (scompare_any _ _ _).mono ?_; rintro e w' ⟨rfl, rfl⟩)
  go_ret
  exact ⟨rfl, rfl⟩

theorem cmp_less : ∀ (a b : List UInt8), decide (Lib.compareBytes a b < 0) = Op.bytesLess a b
  | [], [] => by simp [Lib.compareBytes, Op.bytesLess]
  | [], _ :: _ => by simp [Lib.compareBytes, Op.bytesLess]
  | _ :: _, [] => by simp [Lib.compareBytes, Op.bytesLess]
  | x :: a, y :: b => by
    have ih := cmp_less a b
    unfold Lib.compareBytes Op.bytesLess
    by_cases h1 : x < y
    · simp [h1]
    · by_cases h2 : y < x
      · have h3 : ¬ x = y := fun e => by subst e; exact UInt8.lt_irrefl _ h2
        simp [h1, h2, h3]
      · have h3 : x = y := UInt8.le_antisymm (UInt8.not_lt.1 h2) (UInt8.not_lt.1 h1)
        subst h3
        simp [ih]
theorem M.cmpS_less (s t : ByteArray) : decide (M.cmpS s t < 0) = M.less s t := by
  unfold M.cmpS M.less
  rw [cmp_less, ByteArray.toList_eq, ByteArray.toList_eq]
end Go.Proofs.YtcgpgflnihjpiafGreat

/- Heads that rise, and one more that is sorted in. -/
namespace Go.Proofs.YtcgpgflnihjpiafGreat
open Go.RowKit Go.Shelf Go.Sort

theorem bless_irr : ∀ a : List UInt8, Op.bytesLess a a = false
  | [] => rfl
  | x :: a => by simp [Op.bytesLess, bless_irr a]
theorem bless_trans : ∀ a b c : List UInt8, Op.bytesLess a b = true → Op.bytesLess b c = true → Op.bytesLess a c = true
  | _, _, [], _, h => by simp [Op.bytesLess] at h
  | _, [], _ :: _, h, _ => by simp [Op.bytesLess] at h
  | [], _ :: _, _ :: _, _, _ => by simp [Op.bytesLess]
  | x :: a, y :: b, z :: c, h1, h2 => by
    simp only [Op.bytesLess, Bool.or_eq_true, decide_eq_true_eq, Bool.and_eq_true, beq_iff_eq] at h1 h2 ⊢
    rcases h1 with h1 | ⟨rfl, h1⟩
    · rcases h2 with h2 | ⟨rfl, h2⟩
      · exact Or.inl (UInt8.lt_trans h1 h2)
      · exact Or.inl h1
    · rcases h2 with h2 | ⟨rfl, h2⟩
      · exact Or.inl h2
      · exact Or.inr ⟨rfl, bless_trans a b c h1 h2⟩
theorem M.less_trans {a b c : ByteArray} (h1 : M.less a b = true) (h2 : M.less b c = true) : M.less a c = true := bless_trans _ _ _ h1 h2
theorem M.less_asymm {a b : ByteArray} (h1 : M.less a b = true) : M.less b a = false := by
  cases h : M.less b a with
  | false => rfl
  | true =>
    have := M.less_trans h1 h
    unfold M.less at this
    rw [bless_irr] at this
    cases this

instance : Inhabited M.Hd := ⟨M.hd0⟩
/-- A head that is sorted into heads that rise. -/
def M.insH (x : M.Hd) : List M.Hd → List M.Hd
  | [] => [x]
  | h :: t => if M.less x.1 h.1 = true then x :: h :: t else h :: M.insH x t
def M.cmpH (x y : M.Hd) : Int := M.cmpS x.1 y.1
theorem M.ltOf_less (x y : M.Hd) : ltOf M.cmpH x y = M.less x.1 y.1 := M.cmpS_less x.1 y.1

theorem M.ins1 (a x : M.Hd) : insertionSort (ltOf M.cmpH) #[a, x] 0 2 = (M.insH x [a]).toArray := by
  unfold insertionSort
  rw [insOuter_go _ _ _ _ _ (by omega), insOuter_stop _ _ _ _ _ (by omega)]
  by_cases h : M.less x.1 a.1 = true
  · simp [insInner, M.ltOf_less, swp, M.insH, h]
  · simp [insInner, M.ltOf_less, M.insH, h]
theorem M.ins2 (a b x : M.Hd) (h1 : M.less a.1 b.1 = true) : insertionSort (ltOf M.cmpH) #[a, b, x] 0 3 = (M.insH x [a, b]).toArray := by
  have h2 := M.less_asymm h1
  unfold insertionSort
  rw [insOuter_go _ _ _ _ _ (by omega), insOuter_go _ _ _ _ _ (by omega), insOuter_stop _ _ _ _ _ (by omega)]
  have e1 : insInner (ltOf M.cmpH) 0 1 #[a, b, x] = #[a, b, x] := by simp [insInner, M.ltOf_less, h2]
  rw [show 0 + 1 = 1 from rfl, e1]
  by_cases hb : M.less x.1 b.1 = true
  · by_cases ha : M.less x.1 a.1 = true
    · simp [insInner, M.ltOf_less, swp, M.insH, ha, hb]
    · simp [insInner, M.ltOf_less, swp, M.insH, ha, hb]
  · have ha : ¬ M.less x.1 a.1 = true := fun h => hb (M.less_trans h h1)
    simp [insInner, M.ltOf_less, M.insH, ha, hb]
theorem M.ins3 (a b c x : M.Hd) (h1 : M.less a.1 b.1 = true) (k1 : M.less b.1 c.1 = true) : insertionSort (ltOf M.cmpH) #[a, b, c, x] 0 4 = (M.insH x [a, b, c]).toArray := by
  have h2 := M.less_asymm h1
  have k2 := M.less_asymm k1
  unfold insertionSort
  rw [insOuter_go _ _ _ _ _ (by omega), insOuter_go _ _ _ _ _ (by omega), insOuter_go _ _ _ _ _ (by omega), insOuter_stop _ _ _ _ _ (by omega)]
  have e1 : insInner (ltOf M.cmpH) 0 1 #[a, b, c, x] = #[a, b, c, x] := by simp [insInner, M.ltOf_less, h2]
  have e2 : insInner (ltOf M.cmpH) 0 2 #[a, b, c, x] = #[a, b, c, x] := by simp [insInner, M.ltOf_less, k2]
  rw [show 0 + 1 = 1 from rfl, e1, show 1 + 1 = 2 from rfl, e2]
  by_cases hc : M.less x.1 c.1 = true
  · by_cases hb : M.less x.1 b.1 = true
    · by_cases ha : M.less x.1 a.1 = true
      · simp [insInner, M.ltOf_less, swp, M.insH, ha, hb, hc]
      · simp [insInner, M.ltOf_less, swp, M.insH, ha, hb, hc]
    · have ha : ¬ M.less x.1 a.1 = true := fun h => hb (M.less_trans h h1)
      simp [insInner, M.ltOf_less, swp, M.insH, ha, hb, hc]
  · have hb : ¬ M.less x.1 b.1 = true := fun h => hc (M.less_trans h k1)
    have ha : ¬ M.less x.1 a.1 = true := fun h => hb (M.less_trans h h1)
    simp [insInner, M.ltOf_less, M.insH, ha, hb, hc]
theorem M.ins_all (H : List M.Hd) (x : M.Hd) (hr : M.rise H = true) (h1 : 1 ≤ H.length) (h3 : H.length ≤ 3) : insertionSort (ltOf M.cmpH) (H ++ [x]).toArray 0 (H ++ [x]).toArray.size = (M.insH x H).toArray := by
  match H, hr, h1, h3 with
  | [a], _, _, _ => exact M.ins1 a x
  | [a, b], hr, _, _ =>
    simp only [M.rise, M.riseF, Bool.and_true] at hr
    exact M.ins2 a b x hr
  | [a, b, c], hr, _, _ =>
    simp only [M.rise, M.riseF, Bool.and_true, Bool.and_eq_true] at hr
    exact M.ins3 a b c x hr.1 hr.2
theorem M.insH_len (x : M.Hd) (H : List M.Hd) : (M.insH x H).length = H.length + 1 := by
  induction H with
  | nil => rfl
  | cons h t ih =>
    unfold M.insH
    split
    · rfl
    · simp [ih]
theorem M.insH_mem (x : M.Hd) (H : List M.Hd) (y : M.Hd) : y ∈ M.insH x H ↔ y = x ∨ y ∈ H := by
  induction H with
  | nil => simp [M.insH]
  | cons h t ih =>
    unfold M.insH
    split
    · simp
    · simp only [List.mem_cons, ih]
      constructor
      · rintro (h | h | h) <;> simp [h]
      · rintro (h | h | h) <;> simp [h]
end Go.Proofs.YtcgpgflnihjpiafGreat

/- Plain facts on repos that have changed, with no program in sight. -/
namespace Go.Proofs.YtcgpgflnihjpiafGreat.M
open Go.RowKit

theorem alike_iff (s t : ByteArray) : alike s t = true ↔ s = t := by
  unfold alike
  rw [beq_iff_eq, ByteArray.toList_eq, ByteArray.toList_eq]
  constructor
  · intro h
    have : s.data = t.data := Array.ext' h
    cases s; cases t; simp_all
  · rintro rfl; rfl
theorem less_irr (s : ByteArray) : less s s = false := bless_irr _

/-! ### names -/
def nms (H : List Hd) : List ByteArray := H.map Prod.fst
theorem riseF_nms : ∀ (H H' : List Hd) (s : ByteArray), nms H = nms H' → riseF s H = riseF s H'
  | [], [], _, _ => rfl
  | [], _ :: _, _, h => by simp [nms] at h
  | _ :: _, [], _, h => by simp [nms] at h
  | x :: t, y :: u, s, h => by
    simp only [nms, List.map_cons, List.cons.injEq] at h
    simp only [riseF]
    rw [h.1, riseF_nms t u _ h.2]
theorem rise_nms : ∀ (H H' : List Hd), nms H = nms H' → rise H = rise H'
  | [], [], _ => rfl
  | [], _ :: _, h => by simp [nms] at h
  | _ :: _, [], h => by simp [nms] at h
  | x :: t, y :: u, h => by
    simp only [nms, List.map_cons, List.cons.injEq] at h
    simp only [rise]
    rw [h.1, riseF_nms t u _ h.2]
theorem named_nms (H H' : List Hd) (h : nms H = nms H') : named H = named H' := by
  have e : ∀ H : List Hd, named H = (nms H).all nam := fun H => by unfold named nms; rw [List.all_map]; rfl
  rw [e, e, h]
theorem riseF_all : ∀ (H : List Hd) (s : ByteArray), riseF s H = true → (∀ h ∈ H, less s h.1 = true) ∧ H.Pairwise (fun a b => less a.1 b.1 = true)
  | [], _, _ => ⟨fun _ h => by simp at h, List.Pairwise.nil⟩
  | x :: t, s, h => by
    simp only [riseF, Bool.and_eq_true] at h
    obtain ⟨h1, h2⟩ := riseF_all t x.1 h.2
    refine ⟨fun y hy => ?_, List.pairwise_cons.2 ⟨h1, h2⟩⟩
    rcases List.mem_cons.1 hy with rfl | hy
    · exact h.1
    · exact less_trans h.1 (h1 y hy)
theorem rise_all {H : List Hd} (h : rise H = true) : H.Pairwise (fun a b => less a.1 b.1 = true) := by
  cases H with
  | nil => exact List.Pairwise.nil
  | cons x t =>
    obtain ⟨h1, h2⟩ := riseF_all t x.1 h
    exact List.pairwise_cons.2 ⟨h1, h2⟩
theorem riseF_of : ∀ (H : List Hd) (s : ByteArray), (∀ h ∈ H, less s h.1 = true) → H.Pairwise (fun a b => less a.1 b.1 = true) → riseF s H = true
  | [], _, _, _ => rfl
  | x :: t, s, h1, h2 => by
    simp only [riseF, Bool.and_eq_true]
    exact ⟨h1 x (by simp), riseF_of t x.1 (List.pairwise_cons.1 h2).1 (List.pairwise_cons.1 h2).2⟩
theorem rise_of {H : List Hd} (h : H.Pairwise (fun a b => less a.1 b.1 = true)) : rise H = true := by
  cases H with
  | nil => rfl
  | cons x t => exact riseF_of t x.1 (List.pairwise_cons.1 h).1 (List.pairwise_cons.1 h).2
/-- Heads that rise have each name once. -/
theorem rise_once {H : List Hd} (h : H.Pairwise (fun a b => less a.1 b.1 = true)) : ∀ a ∈ H, ∀ b ∈ H, a.1 = b.1 → a = b := by
  induction H with
  | nil => intro a ha; simp at ha
  | cons x t ih =>
    obtain ⟨h1, h2⟩ := List.pairwise_cons.1 h
    intro a ha b hb e
    rcases List.mem_cons.1 ha with rfl | ha' <;> rcases List.mem_cons.1 hb with rfl | hb'
    · rfl
    · have := h1 b hb'; rw [e, less_irr] at this; simp at this
    · have := h1 a ha'; rw [e, less_irr] at this; simp at this
    · exact ih h2 a ha' b hb' e

theorem rchk_of {C : List Com} {H : List Hd} (h1 : dchk C = 0) (h2 : H.length ≤ 4) (h3 : named H = true) (h4 : inside C.length H = true) (h5 : rise H = true) : rchk C H = 0 := by
  unfold rchk
  rw [if_neg (by rw [h1]; simp), if_neg (by omega), if_neg (by rw [h3]; simp), if_neg (by rw [h4]; simp), if_neg (by rw [h5]; simp)]

theorem hd_mem {C : List Com} {H : List Hd} (hr : rchk C H = 0) {t : ByteArray} {y : Int} (hm : (t, y) ∈ H) : hchk C H t = 0 ∧ hat C H t = y := by
  have hp : 0 ≤ plc H t := (idxF_neg _ H 0).2 (List.any_eq_true.2 ⟨(t, y), hm, (alike_iff t t).2 rfl⟩)
  have hc : hchk C H t = 0 := by unfold hchk; rw [if_neg (by rw [hr]; simp), if_neg (by omega)]
  have hl := plc_lt H t
  have ha := idxF_at (fun h : Hd => alike h.1 t) H 0 hd0 hp
  rw [Nat.sub_zero] at ha
  have hk : (plc H t).toNat < H.length := by omega
  have hmem : H.getD (plc H t).toNat hd0 ∈ H := by simp [List.getD, hk]
  have e1 : (H.getD (plc H t).toNat hd0).1 = t := (alike_iff _ _).1 ha
  have e2 := rise_once (rise_all (rchk_zero hr).2.2.2.2) _ hmem _ hm e1
  refine ⟨hc, ?_⟩
  unfold hat
  rw [if_neg (by rw [hc]; simp), e2]
theorem hd_none {C : List Com} {H : List Hd} (hr : rchk C H = 0) {t : ByteArray} (hn : ∀ y, (t, y) ∉ H) : hchk C H t = 5 ∧ hat C H t = 0 := by
  have hp : plc H t < 0 := by
    by_cases h : 0 ≤ plc H t
    · obtain ⟨x, hx, hx2⟩ := List.any_eq_true.1 ((idxF_neg _ H 0).1 h)
      have e : x.1 = t := (alike_iff _ _).1 hx2
      exact absurd (show (t, x.2) ∈ H by rw [← e]; exact hx) (hn x.2)
    · omega
  have hc : hchk C H t = 5 := by unfold hchk; rw [if_neg (by rw [hr]; simp), if_pos hp]
  refine ⟨hc, ?_⟩
  unfold hat
  rw [if_pos (by rw [hc]; simp)]
theorem hd_in {C : List Com} {H : List Hd} {t : ByteArray} (h : hchk C H t = 0) : (t, hat C H t) ∈ H := by
  obtain ⟨hr, hp⟩ := hchk_zero h
  by_cases hn : ∀ y, (t, y) ∉ H
  · have := (hd_none hr hn).1; omega
  · simp only [Classical.not_forall, Classical.not_not] at hn
    obtain ⟨y, hy⟩ := hn
    rw [(hd_mem hr hy).2]; exact hy
theorem hd_same {C C' : List Com} {H H' : List Hd} (hr : rchk C H = 0) (hr' : rchk C' H' = 0) {t : ByteArray} (h : ∀ y, (t, y) ∈ H ↔ (t, y) ∈ H') : hchk C H t = hchk C' H' t ∧ hat C H t = hat C' H' t := by
  by_cases hn : ∀ y, (t, y) ∉ H
  · obtain ⟨a1, a2⟩ := hd_none hr hn
    obtain ⟨b1, b2⟩ := hd_none hr' (fun y hy => hn y ((h y).2 hy))
    exact ⟨a1.trans b1.symm, a2.trans b2.symm⟩
  · simp only [Classical.not_forall, Classical.not_not] at hn
    obtain ⟨y, hy⟩ := hn
    obtain ⟨a1, a2⟩ := hd_mem hr hy
    obtain ⟨b1, b2⟩ := hd_mem hr' ((h y).1 hy)
    exact ⟨a1.trans b1.symm, a2.trans b2.symm⟩

/-! ### a head that is moved -/
def setH (H : List Hd) (k : Nat) (x : Int) : List Hd := H.set k ((H.getD k hd0).1, x)
theorem nms_set (H : List Hd) (k : Nat) (x : Int) : nms (setH H k x) = nms H := by
  unfold nms setH
  refine List.ext_getElem (by simp) fun i h1 h2 => ?_
  simp only [List.getElem_map, List.getElem_set]
  split
  · rename_i e; subst e
    have : k < H.length := by simpa using h2
    simp [List.getD, this]
  · rfl
theorem set_mem {H : List Hd} {k : Nat} {x : Int} (hk : k < H.length) (h : H.Pairwise (fun a b => less a.1 b.1 = true)) (t : ByteArray) (y : Int) : (t, y) ∈ setH H k x ↔ (t = (H.getD k hd0).1 ∧ y = x) ∨ (t ≠ (H.getD k hd0).1 ∧ (t, y) ∈ H) := by
  have hm : H.getD k hd0 ∈ H := by simp [List.getD, hk]
  have ek : H.getD k hd0 = H[k] := by simp [List.getD, hk]
  unfold setH
  constructor
  · intro hmem
    obtain ⟨i, hi, e⟩ := List.getElem_of_mem hmem
    rw [List.getElem_set] at e
    split at e
    · left; exact ⟨(congrArg Prod.fst e).symm, (congrArg Prod.snd e).symm⟩
    · rename_i hne
      right
      have hi2 : i < H.length := by simpa using hi
      refine ⟨fun he => ?_, by rw [← e]; exact List.getElem_mem hi2⟩
      rcases Nat.lt_or_gt_of_ne hne with hlt | hlt
      · have := List.pairwise_iff_getElem.1 h k i hk hi2 hlt
        rw [e, ← ek, ← he, less_irr] at this; simp at this
      · have := List.pairwise_iff_getElem.1 h i k hi2 hk hlt
        rw [e, ← ek, ← he, less_irr] at this; simp at this
  · rintro (⟨rfl, rfl⟩ | ⟨h1, h2⟩)
    · exact List.mem_iff_getElem.2 ⟨k, by simpa using hk, by simp⟩
    · obtain ⟨i, hi, e⟩ := List.getElem_of_mem h2
      refine List.mem_iff_getElem.2 ⟨i, by simpa using hi, ?_⟩
      rw [List.getElem_set, if_neg, e]
      intro hki
      subst hki
      rw [← ek] at e
      exact h1 (by rw [e])
theorem inside_mono {n n' : Nat} (hn : n ≤ n') {H : List Hd} (h : inside n H = true) : inside n' H = true := by
  refine (inside_iff n' H).2 fun k hk => ?_
  have := (inside_iff n H).1 h k hk
  omega
theorem inside_mem {n : Nat} {H : List Hd} : inside n H = true ↔ ∀ h ∈ H, 0 ≤ h.2 ∧ h.2 < (n : Int) := by
  unfold inside; rw [List.all_eq_true]; simp
theorem named_mem {H : List Hd} : named H = true ↔ ∀ h ∈ H, nam h.1 = true := by
  unfold named; rw [List.all_eq_true]
theorem rchk_set {C C' : List Com} {H : List Hd} (hr : rchk C H = 0) (hd : dchk C' = 0) (hl : C.length ≤ C'.length) {k : Nat} {x : Int} (h0 : 0 ≤ x) (h1 : x < (C'.length : Int)) : rchk C' (setH H k x) = 0 := by
  obtain ⟨a1, a2, a3, a4, a5⟩ := rchk_zero hr
  have e := nms_set H k x
  refine rchk_of hd (by unfold setH; simpa using a2) (by rw [named_nms _ _ e]; exact a3) ?_ (by rw [rise_nms _ _ e]; exact a5)
  refine inside_mem.2 fun h hm => ?_
  have a4 := inside_mem.1 (inside_mono hl a4)
  unfold setH at hm
  rcases List.mem_or_eq_of_mem_set hm with hm | rfl
  · exact a4 h hm
  · exact ⟨h0, h1⟩
/-- The head that is moved, and the others. -/
theorem moved {C C' : List Com} {H : List Hd} {s : ByteArray} {x : Int} (hs : hchk C H s = 0) (hr' : rchk C' (setH H (plc H s).toNat x) = 0) :
    (hchk C' (setH H (plc H s).toNat x) s = 0 ∧ hat C' (setH H (plc H s).toNat x) s = x) ∧ ∀ t, t ≠ s → hchk C' (setH H (plc H s).toNat x) t = hchk C H t ∧ hat C' (setH H (plc H s).toNat x) t = hat C H t := by
  obtain ⟨hr, hp⟩ := hchk_zero hs
  have hl := plc_lt H s
  have hk : (plc H s).toNat < H.length := by omega
  have ha := idxF_at (fun h : Hd => alike h.1 s) H 0 hd0 hp
  rw [Nat.sub_zero] at ha
  have e1 : (H.getD (plc H s).toNat hd0).1 = s := (alike_iff _ _).1 ha
  have S := fun t y => set_mem (x := x) hk (rise_all (rchk_zero hr).2.2.2.2) t y
  rw [e1] at S
  refine ⟨hd_mem hr' ((S s x).2 (Or.inl ⟨rfl, rfl⟩)), fun t ht => hd_same hr' hr fun y => ?_⟩
  rw [S t y]
  simp [ht]

/-! ### a commit more -/
theorem dchkF_snoc (c : Com) (hc : chk c.1 = 0) : ∀ (L : List Com) (n : Nat), dchkF n L = 0 → pr (n + L.length) c.2 = true → dchkF n (L ++ [c]) = 0
  | [], n, _, hp => by
    simp only [List.nil_append, dchkF]
    rw [if_neg (by rw [hc]; simp), if_pos (by simpa using hp)]
  | d :: t, n, h, hp => by
    rw [List.cons_append, dchkF]
    rw [dchkF] at h
    split at h
    · rename_i h1; exact absurd h h1
    · rename_i h1
      split at h
      · rename_i h2
        rw [if_neg h1, if_pos h2]
        exact dchkF_snoc c hc t (n + 1) h (by rw [show n + 1 + t.length = n + (d :: t).length by simp; omega]; exact hp)
      · omega
theorem dchk_snoc {L : List Com} {c : Com} (h : dchk L = 0) (hl : L.length < 14) (hc : chk c.1 = 0) (hp : pr L.length c.2 = true) : dchk (L ++ [c]) = 0 := by
  rw [dchk_few _ (by simp; omega)]
  rw [dchk_few _ (by omega)] at h
  exact dchkF_snoc c hc L 0 h (by simpa using hp)
theorem pr_one {n : Nat} {x : Int} (h0 : 0 ≤ x) (h1 : x < (n : Int)) : pr n [x] = true := by
  unfold pr ris ris
  simp; omega
theorem pr_two {n : Nat} {x y : Int} (h0 : 0 ≤ x) (h1 : x < y) (h2 : y < (n : Int)) : pr n [x, y] = true := by
  unfold pr ris ris ris
  simp; omega
theorem mrows_ok {b l m : List (Int × Int)} (h : mergeE b l m = 0) : chk (mrows b l m) = 0 := by
  unfold mergeE at h
  split at h
  · rename_i h1; exact absurd h h1
  · rename_i h1
    split at h
    · rename_i h2; exact absurd h h2
    · rename_i h2
      split at h
      · rename_i h3; exact absurd h h3
      · rename_i h3
        split at h
        · omega
        · rename_i h4
          refine (chk_zero _).2 ⟨by omega, ofTab_ok _ fun i _ => ?_⟩
          have r1 := find_range (key := (i : Int)) ((chk_zero b).1 (by simpa using h1)).2
          have r2 := find_range (key := (i : Int)) ((chk_zero l).1 (by simpa using h2)).2
          have r3 := find_range (key := (i : Int)) ((chk_zero m).1 (by simpa using h3)).2
          unfold mtab mval
          split
          · exact r2
          · split
            · exact r3
            · exact r2
theorem patchE_parts {l : List (Int × Int)} {d : List Chg} (h : patchE l d = 0) : chk l = 0 ∧ fine d = true ∧ clashF l d = false ∧ (ofTab (tab (fun k => find k l) d)).length ≤ 40 := by
  unfold patchE at h
  split at h
  · rename_i h1; exact absurd h h1
  · rename_i h1
    split at h
    · omega
    · rename_i h2
      split at h
      · omega
      · rename_i h3
        split at h
        · omega
        · rename_i h4
          exact ⟨by simpa using h1, by simpa using h2, by simpa using h3, by omega⟩
theorem patchV_ok {l : List (Int × Int)} {d : List Chg} (h : patchE l d = 0) : chk (patchV l d) = 0 := by
  obtain ⟨h1, h2, h3, h4⟩ := patchE_parts h
  unfold patchV
  rw [if_pos h]
  refine (chk_zero _).2 ⟨h4, ofTab_ok _ fun i hi => ?_⟩
  have F := (fine_iff d).1 h2
  rcases tab_cases (fun k => find k l) d F.2 (i : Int) with ⟨c, hc, _, e⟩ | ⟨_, e⟩
  · rw [e]; have := F.1 c hc; omega
  · rw [e]; exact find_range ((chk_zero l).1 h1).2

/-! ### heads that are sorted in, and heads that are taken out -/
theorem insH_rise {x : Hd} {H : List Hd} (h : H.Pairwise (fun a b => less a.1 b.1 = true)) (hn : ∀ y ∈ H, y.1 ≠ x.1) : (insH x H).Pairwise (fun a b => less a.1 b.1 = true) := by
  induction H with
  | nil => simp [insH]
  | cons y t ih =>
    obtain ⟨h1, h2⟩ := List.pairwise_cons.1 h
    unfold insH
    split
    · rename_i hl
      refine List.pairwise_cons.2 ⟨fun z hz => ?_, h⟩
      rcases List.mem_cons.1 hz with rfl | hz
      · exact hl
      · exact less_trans hl (h1 z hz)
    · rename_i hl
      refine List.pairwise_cons.2 ⟨fun z hz => ?_, ih h2 (fun z hz => hn z (by simp [hz]))⟩
      rcases (insH_mem x t z).1 hz with hzx | hz
      · rw [hzx]
        have hl : less x.1 y.1 = false := by simpa using hl
        have := leq_not x.1 y.1
        cases hyx : less y.1 x.1 with
        | true => rfl
        | false =>
          rw [hyx] at this
          have e2 : (Op.bytesLess x.1.toList y.1.toList) = false := hl
          rw [e2] at this
          simp only [Bool.false_or, Bool.not_false] at this
          exact absurd ((alike_iff x.1 y.1).1 this).symm (hn y (by simp))
      · exact h1 z hz
end Go.Proofs.YtcgpgflnihjpiafGreat.M

/- repo.isName, by the library's own text of strings.ContainsFunc; the reference's IsName. -/
namespace Go.Proofs.YtcgpgflnihjpiafGreat
open Go.RowKit Go.PlainAid Go.Shelf

theorem notLetter_any (r : Int) (w : World) : Calls Tryz.prog 86 #[.int .i32 r] w fun e w' => e = .returned (.bool (decide (r < 97 ∨ 122 < r))) ∧ w' = w := by
  go_enter Tryz.func86, Tryz.ntmps86
  go_wp2
  all_goals (go_ret; exact ⟨ret_bool (by simp; try omega), rfl⟩)

set_option maxHeartbeats 2000000 in
theorem indexFunc_any (s : ByteArray) (w : World) :
    Calls Tryz.prog 142 #[.string s, .func (.func 86) #[] #[], .bool true] w fun e w' => ∃ r : Int, e = .returned (.int .i64 r) ∧ Hid ((M.lets s 0 = true → r = -1) ∧ (M.lets s 0 = false → 0 ≤ r)) ∧ Below w.heap.size w w' := by
  have eg : ∀ args w, (callFunc 86 args).run Tryz.prog w = .ok (.enter 86 args) w := enters_of Tryz.func86 (by kernel_rfl) rfl
  go_enter Tryz.func142, Tryz.ntmps142
  go_wp2
  go_loopg [] s.size (fun gf wx => ∃ pos : Nat, wx.heap[w.heap.size]? = some (.stringIter s pos) ∧ Below w.heap.size w wx ∧ pos + gf = s.size ∧ Aside (M.lets s pos = M.lets s 0))
  case atStart => exact ⟨0, World.iter_heap w s 0, (Below.refl _ w).alloc (Nat.le_refl _) _, by omega, rfl⟩
  case round =>
    obtain ⟨pos, hit, hbw, hfu, A⟩ := hrel
    by_cases hps : pos < s.size
    · have hnx : ∀ ty, (Instr.next (.pointer (some ⟨w.heap.size, 0, none⟩)) true ty).run Tryz.prog wr = _ := fun ty => Lib.run_next_any_at wr w.heap.size s pos ty hit hps
      obtain ⟨R, hR⟩ : ∃ R, (Utf8.decode s pos).1 = R := ⟨_, rfl⟩
      obtain ⟨K, hK⟩ : ∃ K, (Utf8.decode s pos).2 = K := ⟨_, rfl⟩
      rw [hR, hK] at hnx
      have hit2 := Lib.iterAt_heap wr w.heap.size s pos (pos + K) hit
      have hbw2 := Lib.below_iterAt hbw (k := w.heap.size) (Nat.le_refl _) s (pos + K)
      obtain ⟨W, hWd⟩ : ∃ W, wr.iterAt w.heap.size s (pos + K) = W := ⟨_, rfl⟩
      rw [hWd] at hnx hit2 hbw2
      have cS := notLetter_any (R : Int) W
      by_cases hl : 97 ≤ bt s pos ∧ bt s pos ≤ 122
      · have hd := M.bt_decode s pos hps (by omega)
        have e1 : (R : Int) = bt s pos := by rw [← hR, hd]; simp; omega
        have e2 : K = 1 := by rw [← hK, hd]
        have e3 : decide ((R : Int) < 97 ∨ 122 < (R : Int)) = false := decide_eq_false (by omega)
        rw [e3] at cS
        have A2 : Aside (M.lets s (pos + K) = M.lets s 0) := by unfold Aside; rw [e2, ← M.lets_good s pos hl.1 hl.2]; exact A.out
        have CS : Hid (Calls Tryz.prog 86 #[.int .i32 (R : Int)] W fun e w' => e = .returned (.bool false) ∧ w' = W) := cS
        have HK1 : Hid (K = 1) := e2
        clear cS hd e1 e2 e3 hR hK hWd hl A
        go_wp2_with fail
        refine CS.out.mono ?_
        rintro e w' ⟨rfl, hw'⟩
        subst hw'
        go_wp2
        go_roundg (gk - 1)
        case measure => omega
        case rel => exact ⟨pos + K, hit2, hbw2, by have := HK1.out; omega, A2⟩
      · have e3 : decide ((R : Int) < 97 ∨ 122 < (R : Int)) = true := by
          rw [decide_eq_true]
          by_cases h8 : bt s pos < 128
          · have hd := M.bt_decode s pos hps h8
            have h0 := bt_nonneg s pos
            have e1 : (R : Int) = bt s pos := by rw [← hR, hd]; simp; omega
            omega
          · have := M.far_decode s pos hps (by omega)
            rw [hR] at this; omega
        rw [e3] at cS
        have A2 : Aside (M.lets s 0 = false) := by unfold Aside; rw [← A.out]; exact M.lets_bad s pos hps (by omega)
        have CS : Hid (Calls Tryz.prog 86 #[.int .i32 (R : Int)] W fun e w' => e = .returned (.bool true) ∧ w' = W) := cS
        clear cS e3 hR hK hWd hl A
        go_wp2_with fail
        refine CS.out.mono ?_
        rintro e w' ⟨rfl, hw'⟩
        subst hw'
        go_wp2
        go_ret
        exact ⟨(pos : Int), rfl, ⟨fun h => by rw [A2.out] at h; simp at h, fun _ => by omega⟩, hbw2⟩
    · have hnx : ∀ ty, (Instr.next (.pointer (some ⟨w.heap.size, 0, none⟩)) true ty).run Tryz.prog wr = _ := fun ty => Lib.run_next_end_at wr w.heap.size s pos ty hit hps
      have A2 : Aside (M.lets s 0 = true) := by unfold Aside; rw [← A.out]; exact M.lets_end s pos (by omega)
      clear A
      go_wp2
      go_ret
      exact ⟨-1, rfl, ⟨fun _ => rfl, fun h => by rw [A2.out] at h; simp at h⟩, hbw⟩

theorem scontains_any (s : ByteArray) (w : World) :
    Calls Tryz.prog 85 #[.string s, .func (.func 86) #[] #[]] w fun e w' => e = .returned (.bool (!M.lets s 0)) ∧ Below w.heap.size w w' := by
  have H1 : Hid (Calls Tryz.prog 118 #[.string s, .func (.func 86) #[] #[]] w fun e w' => ∃ r : Int, e = .returned (.int .i64 r) ∧ Hid ((M.lets s 0 = true → r = -1) ∧ (M.lets s 0 = false → 0 ≤ r)) ∧ Below w.heap.size w w') := by
    unfold Hid
    have H2 : Hid (Calls Tryz.prog 142 #[.string s, .func (.func 86) #[] #[], .bool true] w fun e w' => ∃ r : Int, e = .returned (.int .i64 r) ∧ Hid ((M.lets s 0 = true → r = -1) ∧ (M.lets s 0 = false → 0 ≤ r)) ∧ Below w.heap.size w w') := indexFunc_any s w
    go_enter Tryz.func118, Tryz.ntmps118
    go_wp2_with fail
    refine H2.out.mono ?_
    rintro e w' ⟨r, rfl, hr, hb⟩
    go_wp2
    go_ret
    exact ⟨r, rfl, hr, hb⟩
  go_enter Tryz.func85, Tryz.ntmps85
  go_wp2_with fail
  refine H1.out.mono ?_
  rintro e w' ⟨r, rfl, hr, hb⟩
  go_wp2
  go_ret
  refine ⟨ret_bool ?_, hb⟩
  cases h : M.lets s 0
  · have := hr.out.2 h; simp; exact this
  · have := hr.out.1 h; subst this; simp

theorem isName_any (s : ByteArray) (w : World) (hm : s.size ≤ 9223372036854775807) : Calls Tryz.prog 35 #[.string s] w fun e w' => e = .returned (.bool (M.nam s)) ∧ Below w.heap.size w w' := by
  have hsz : s.toList.length = s.size := by rw [ByteArray.toList_eq]; rfl
  by_cases h0 : s.size = 0
  · rw [M.nam_none s h0]
    have e0 : s.toList = [] := List.eq_nil_of_length_eq_zero (by omega)
    clear h0 hsz
    go_enter Tryz.func35, Tryz.ntmps35
    go_wp2
    go_ret
    exact ⟨rfl, Below.refl _ _⟩
  · have e0 : s.toList.isEmpty = false := by
      rw [List.isEmpty_eq_false_iff]
      intro h
      rw [h] at hsz; simp at hsz; omega
    have e1 : ¬ s.toList = [] := by intro h; rw [h] at e0; simp at e0
    clear hsz
    by_cases h8 : 8 < s.size
    · rw [M.nam_long s h8]
      have h8' : decide (8 < (s.size : Int)) = true := by simp; omega
      go_enter Tryz.func35, Tryz.ntmps35
      go_wp2
      go_ret
      exact ⟨rfl, Below.refl _ _⟩
    · rw [M.nam_few s (by omega) (by omega)]
      have h8' : decide (8 < (s.size : Int)) = false := by simp; omega
      have H1 : Hid (Calls Tryz.prog 85 #[.string s, .func (.func 86) #[] #[]] w fun e w' => e = .returned (.bool (!M.lets s 0)) ∧ Below w.heap.size w w') := scontains_any s w
      go_enter Tryz.func35, Tryz.ntmps35
      go_wp2_with fail
      refine H1.out.mono ?_
      rintro e w' ⟨rfl, hb⟩
      go_wp2
      go_ret
      exact ⟨ret_bool (by simp), hb⟩
end Go.Proofs.YtcgpgflnihjpiafGreat

/- repo.Check, repo.Head. -/
namespace Go.Proofs.YtcgpgflnihjpiafGreat
open Go.RowKit Go.Shelf

theorem check1_any (x : M.Hd) (w : World) (hm : x.1.size ≤ 9223372036854775807) :
    Calls Tryz.prog 34 #[.agg #[.string x.1, .int .i64 x.2]] w fun e w' => e = .returned (.bool (!M.nam x.1)) ∧ Below w.heap.size w w' := by
  obtain ⟨W, hW⟩ : ∃ W, W = w.alloc (.cells #[.string x.1, .int .i64 x.2] 71) := ⟨_, rfl⟩
  have hb : Below w.heap.size w W := by rw [hW]; exact (Below.refl _ _).alloc (Nat.le_refl _) _
  have HN : Hid (Calls Tryz.prog 35 #[.string x.1] W fun e w' => e = .returned (.bool (M.nam x.1)) ∧ Below W.heap.size W w') := isName_any x.1 W hm
  have HW : Hid (W = w.alloc (.cells #[.string x.1, .int .i64 x.2] 71)) := hW
  clear hW
  go_enter Tryz.func34, Tryz.ntmps34
  go_wp2_with fail
  rw [← HW.out]
  refine HN.out.mono ?_
  rintro e w' ⟨rfl, hb1⟩
  go_wp2
  go_ret
  exact ⟨rfl, dbelow2 hb hb1⟩

theorem check2_any (x : M.Hd) (p n cap : Nat) (a : Option Addr) (w : World) (hp : w.cell? ⟨p, 0, none⟩ = some (.slice a n cap)) (hpl : p < w.heap.size) :
    Calls Tryz.prog 36 #[.agg #[.string x.1, .int .i64 x.2], .pointer (some ⟨p, 0, none⟩)] w fun e w' => e = .returned (.bool (!decide (0 ≤ x.2 ∧ x.2 < (n : Int)))) ∧ Below w.heap.size w w' := by
  have hb : Below w.heap.size w (w.alloc (.cells #[.string x.1, .int .i64 x.2] 71)) := (Below.refl _ _).alloc (Nat.le_refl _) _
  have hp1 : (w.alloc (.cells #[.string x.1, .int .i64 x.2] 71)).cell? ⟨p, 0, none⟩ = some (.slice a n cap) := (hb.cell (p := ⟨p, 0, none⟩) hpl).trans hp
  go_enter Tryz.func36, Tryz.ntmps36
  go_wp2
  all_goals (go_ret; exact ⟨ret_bool (by rw [Bool.eq_iff_iff]; simp; try omega), hb⟩)

theorem rise_none (a : Option Addr) (cap : Nat) (w : World) :
    Calls Tryz.prog 37 #[.slice a 0 cap] w fun e w' => e = .returned (.bool true) ∧ w' = w := by
  go_enter Tryz.func37, Tryz.ntmps37
  go_wp2
  refine wp_loop_rounds 1 ?_
  rw [rounds_succ]
  go_wp2
  go_ret
  exact ⟨rfl, rfl⟩
set_option maxHeartbeats 2000000 in
theorem rise_some (b off n cap : Nat) (H : List M.Hd) (w : World) (hm : n ≤ 9223372036854775807) (hl : H.length = n) (hB : b < w.heap.size)
    (hc : ∀ i, i < n → w.cell? ⟨b, off + i * 2, none⟩ = some (.string (H.getD i M.hd0).1) ∧ w.cell? ⟨b, off + i * 2 + 1, none⟩ = some (.int .i64 (H.getD i M.hd0).2) ∧ (H.getD i M.hd0).1.size ≤ 9223372036854775807) :
    Calls Tryz.prog 37 #[.slice (some ⟨b, off, none⟩) n cap] w fun e w' => e = .returned (.bool (M.riseF (ByteArray.mk #[]) H)) ∧ Below w.heap.size w w' := by
  have HC : Aside (∀ i, i < n → w.cell? ⟨b, off + i * 2, none⟩ = some (.string (H.getD i M.hd0).1) ∧ w.cell? ⟨b, off + i * 2 + 1, none⟩ = some (.int .i64 (H.getD i M.hd0).2) ∧ (H.getD i M.hd0).1.size ≤ 9223372036854775807) := hc
  have HL : Aside (H.length = n) := hl
  clear hc hl
  go_enter Tryz.func37, Tryz.ntmps37
  go_wp2
  go_loopg [3, 8] n (fun g v i wr => ∃ (k : Nat) (s : ByteArray), k + g = n ∧ i = .int .i64 k ∧ v = .string s ∧ Below w.heap.size w wr ∧ Aside (M.riseF s (H.drop k) = M.riseF (ByteArray.mk #[]) H))
  case atStart => exact ⟨0, _, by omega, rfl, rfl, Below.refl _ _, by simp [Aside]⟩
  case round =>
    obtain ⟨k, s, hk, rfl, rfl, hbel, A⟩ := hrel
    have hsz := hbel.size
    by_cases hlt : k < n
    · obtain ⟨x, hx⟩ : ∃ x, H.getD k M.hd0 = x := ⟨_, rfl⟩
      have c0 : wr.cell? ⟨b, off + k * 2, none⟩ = some (.string x.1) := by rw [hbel.cell (p := ⟨b, off + k * 2, none⟩) hB, (HC.out k hlt).1, hx]
      have c1 : wr.cell? ⟨b, off + k * 2 + 1, none⟩ = some (.int .i64 x.2) := by rw [hbel.cell (p := ⟨b, off + k * 2 + 1, none⟩) hB, (HC.out k hlt).2.1, hx]
      have hA := M.riseF_at s H k (by rw [HL.out]; exact hlt) x hx
      rw [A.out] at hA
      have HA : Aside (M.riseF (ByteArray.mk #[]) H = (M.less s x.1 && M.riseF x.1 (H.drop (k + 1)))) := hA
      have hb1 := hbel.alloc hsz (.cells #[.string x.1, .int .i64 x.2] 71)
      have hle := M.leq_not x.1 s
      obtain ⟨t, ht⟩ : ∃ t, M.less s x.1 = t := ⟨_, rfl⟩
      rw [ht] at hle
      have HT : Aside (M.less s x.1 = t) := ht
      clear hx hA A ht
      have hki : (k : Int) < (n : Int) := by omega
      cases t with
      | true =>
        go_wp2
        go_roundg (gk - 1)
        case measure => omega
        case rel => exact ⟨k + 1, x.1, by omega, by go_num, rfl, hb1, by unfold Aside; rw [HA.out, HT.out]; rfl⟩
      | false =>
        go_wp2
        go_ret
        exact ⟨ret_bool (by rw [HA.out, HT.out]; rfl), hb1⟩
    · go_wp2
      go_ret
      exact ⟨ret_bool (by rw [← A.out]; exact (M.riseF_end s H k (by rw [HL.out]; omega)).symm), hbel⟩
theorem rise_any (a : Option Addr) (n cap : Nat) (H : List M.Hd) (w : World) (h : Hs w a n H) (hm : n ≤ 9223372036854775807) :
    Calls Tryz.prog 37 #[.slice a n cap] w fun e w' => e = .returned (.bool (M.riseF (ByteArray.mk #[]) H)) ∧ Below w.heap.size w w' := by
  rcases h.cases with ⟨rfl, rfl⟩ | ⟨b, off, rfl, hn, hl, hB, hc⟩
  · refine (rise_none a cap w).mono ?_
    rintro e w' ⟨rfl, rfl⟩
    exact ⟨rfl, Below.refl _ _⟩
  · exact rise_some b off n cap H w hm hl hB hc

set_option maxHeartbeats 4000000 in
theorem rcheck_any (a : Option Addr) (n cap : Nat) (C : List M.Com) (a2 : Option Addr) (n2 cap2 : Nat) (H : List M.Hd) (w : World) (hC : Cm w a n C) (hn : n ≤ 9223372036854775807) (hH : Hs w a2 n2 H) (hn2 : n2 ≤ 9223372036854775807) :
    Calls Tryz.prog 11 #[.agg #[.slice a n cap, .slice a2 n2 cap2]] w fun e w' => e = .returned (.int .i64 (M.rchk C H)) ∧ Below w.heap.size w w' := by
  obtain ⟨p, hp⟩ : ∃ p, p = w.heap.size := ⟨_, rfl⟩
  obtain ⟨W, hW⟩ : ∃ W, W = w.alloc (.cells #[.slice a n cap, .slice a2 n2 cap2] 25) := ⟨_, rfl⟩
  have hb : Below w.heap.size w W := by rw [hW]; exact (Below.refl _ _).alloc (Nat.le_refl _) _
  have q0 : W.cell? ⟨p, 0, none⟩ = some (.slice a n cap) := by rw [hW, hp]; simp [go_sem]
  have q1 : W.cell? ⟨p, 1, none⟩ = some (.slice a2 n2 cap2) := by rw [hW, hp]; simp [go_sem]
  have hpW : p < W.heap.size := by rw [hW, hp]; simp
  have HD := dcheck_any a n cap C W (hC.below hb (Nat.le_refl _)) hn
  have HHs : Aside (Hs W a2 n2 H) := hH.below hb (Nat.le_refl _)
  have hCl : C.length = n := hC.1
  have hHl : H.length = n2 := hH.1
  have HCl : Aside (C.length = n) := hCl
  have HHl : Aside (H.length = n2) := hHl
  obtain ⟨c, hc⟩ : ∃ c, c = M.dchk C := ⟨_, rfl⟩
  rw [← hc] at HD
  have HCc : Aside (c = M.dchk C) := hc
  have HDD : Hid (Calls Tryz.prog 32 #[.slice a n cap] W fun e w' => e = .returned (.int .i64 c) ∧ Below W.heap.size W w') := HD
  have HW : Hid (W = w.alloc (.cells #[.slice a n cap, .slice a2 n2 cap2] 25)) := hW
  have HP : Aside (p = w.heap.size) := hp
  clear hW HD hc hCl hHl hC hH hp
  have after : ∀ w1, Below W.heap.size W w1 → w1.cell? ⟨p, 0, none⟩ = some (.slice a n cap) ∧ w1.cell? ⟨p, 1, none⟩ = some (.slice a2 n2 cap2) ∧ Hs w1 a2 n2 H := fun w1 h => ⟨(h.cell (p := ⟨p, 0, none⟩) hpW).trans q0, (h.cell (p := ⟨p, 1, none⟩) hpW).trans q1, HHs.out.below h (Nat.le_refl _)⟩
  have HAf : Aside (∀ w1, Below W.heap.size W w1 → w1.cell? ⟨p, 0, none⟩ = some (.slice a n cap) ∧ w1.cell? ⟨p, 1, none⟩ = some (.slice a2 n2 cap2) ∧ Hs w1 a2 n2 H) := after
  clear after q0 q1
  go_enter Tryz.func11, Tryz.ntmps11
  go_wp2_with fail
  rw [← HW.out, ← HP.out]
  refine HDD.out.mono ?_
  rintro e w1 ⟨rfl, hb1⟩
  obtain ⟨d0, d1, hs1⟩ := HAf.out w1 hb1
  by_cases hz : c = 0
  · have hne : (c != 0) = false := by simp [hz]
    have HZ : Aside (M.dchk C = 0) := by unfold Aside; rw [← HCc.out]; exact hz
    clear hz
    by_cases h4 : 4 < n2
    · have E : Aside (M.rchk C H = 2) := by unfold Aside M.rchk; rw [if_neg (by rw [HZ.out]; simp), if_pos (by rw [HHl.out]; exact h4)]
      have h4' : decide (4 < (n2 : Int)) = true := by simp; omega
      go_wp2
      go_ret
      exact ⟨ret_int E.out.symm, hb.trans (hb1.mono hb.size)⟩
    · have h4' : decide (4 < (n2 : Int)) = false := by simp; omega
      have E1 : Aside (M.rchk C H = if M.named H = false then 4 else if M.inside C.length H = false then 1 else if M.rise H = false then 1 else 0) := by unfold Aside M.rchk; rw [if_neg (by rw [HZ.out]; simp), if_neg (by rw [HHl.out]; exact h4)]
      have K1 := hcontains_any 34 [] (enters_of Tryz.func34 (by kernel_rfl) rfl) (fun h => !M.nam h.1) a2 n2 cap2 H w1 hs1 hn2 (fun W' x hx hbx => check1_any x W' (hs1.small x hx))
      rw [M.named_any] at K1
      obtain ⟨t, ht⟩ : ∃ t, M.named H = t := ⟨_, rfl⟩
      rw [ht] at K1
      have HT : Aside (M.named H = t) := ht
      have KK1 : Hid (Calls Tryz.prog 33 #[.slice a2 n2 cap2, .func (.func 34) #[] #[]] w1 fun e w' => e = .returned (.bool (!t)) ∧ Below w1.heap.size w1 w') := K1
      clear K1 ht hs1
      go_wp2_with fail
      refine KK1.out.mono ?_
      rintro e w2 ⟨rfl, hb2⟩
      have b2 := dbelow2 hb1 hb2
      obtain ⟨d0', d1', hs2⟩ := HAf.out w2 b2
      have hp2 : p < w2.heap.size := Nat.lt_of_lt_of_le hpW b2.size
      clear d0 d1 hb1 hb2
      cases t with
      | false =>
        go_wp2
        go_ret
        exact ⟨ret_int (by rw [E1.out, HT.out]; rfl), hb.trans (b2.mono hb.size)⟩
      | true =>
        have K2 := hcontains_any 36 [.pointer (some ⟨p, 0, none⟩)] (enters_of Tryz.func36 (by kernel_rfl) rfl) (fun h => !decide (0 ≤ h.2 ∧ h.2 < (n : Int))) a2 n2 cap2 H w2 hs2 hn2 (fun W' x hx hbx => check2_any x p n cap a W' ((hbx.cell (p := ⟨p, 0, none⟩) hp2).trans d0') (Nat.lt_of_lt_of_le hp2 hbx.size))
        rw [M.inside_any] at K2
        obtain ⟨u, hu⟩ : ∃ u, M.inside n H = u := ⟨_, rfl⟩
        rw [hu] at K2
        have HU : Aside (M.inside C.length H = u) := by unfold Aside; rw [HCl.out]; exact hu
        have KK2 : Hid (Calls Tryz.prog 33 #[.slice a2 n2 cap2, .func (.func 36) #[] #[.pointer (some ⟨p, 0, none⟩)]] w2 fun e w' => e = .returned (.bool (!u)) ∧ Below w2.heap.size w2 w') := K2
        clear K2 hu hs2
        go_wp2_with fail
        refine KK2.out.mono ?_
        rintro e w3 ⟨rfl, hb3⟩
        have b3 := dbelow2 b2 hb3
        obtain ⟨e0, e1, hs3⟩ := HAf.out w3 b3
        clear d0' d1' hb3 b2
        cases u with
        | false =>
          go_wp2
          go_ret
          exact ⟨ret_int (by rw [E1.out, HT.out, HU.out]; rfl), hb.trans (b3.mono hb.size)⟩
        | true =>
          have K3 := rise_any a2 n2 cap2 H w3 hs3 hn2
          rw [M.riseF_none H HT.out] at K3
          obtain ⟨v, hv⟩ : ∃ v, M.rise H = v := ⟨_, rfl⟩
          rw [hv] at K3
          have HV : Aside (M.rise H = v) := hv
          have KK3 : Hid (Calls Tryz.prog 37 #[.slice a2 n2 cap2] w3 fun e w' => e = .returned (.bool v) ∧ Below w3.heap.size w3 w') := K3
          clear K3 hv hs3
          go_wp2_with fail
          refine KK3.out.mono ?_
          rintro e w4 ⟨rfl, hb4⟩
          have b4 := dbelow2 b3 hb4
          cases v with
          | false =>
            go_wp2
            go_ret
            exact ⟨ret_int (by rw [E1.out, HT.out, HU.out, HV.out]; rfl), hb.trans (b4.mono hb.size)⟩
          | true =>
            go_wp2
            go_ret
            exact ⟨ret_int (by rw [E1.out, HT.out, HU.out, HV.out]; rfl), hb.trans (b4.mono hb.size)⟩
  · have hne : (c != 0) = true := by simp [hz]
    have E : Aside (M.rchk C H = c) := by unfold Aside M.rchk; rw [if_pos (by rw [← HCc.out]; exact hz)]; exact HCc.out.symm
    clear hz
    go_wp2
    go_ret
    exact ⟨ret_int E.out.symm, hb.trans (hb1.mono hb.size)⟩
end Go.Proofs.YtcgpgflnihjpiafGreat

/- A repo in its box. -/
namespace Go.Proofs.YtcgpgflnihjpiafGreat
open Go.RowKit

theorem ret_two' {k : IntKind} {v : Value} {b b' : Int} (h : b = b') : Ending.returned (.tuple #[v, .int k b]) = .returned (.tuple #[v, .int k b']) := by rw [h]
theorem ret_pair {k k' : IntKind} {a a' b b' : Int} (h : a = a') (h' : b = b') : Ending.returned (.tuple #[.int k a, .int k' b]) = .returned (.tuple #[.int k a', .int k' b']) := by rw [h, h']
/-- What a call that is handed a repo has of it: its box, its commits, its heads. -/
structure InBox (w : World) (p : Nat) (a : Option Addr) (n cap : Nat) (C : List M.Com) (a2 : Option Addr) (n2 cap2 : Nat) (H : List M.Hd) : Prop where
  c0 : w.cell? ⟨p, 0, none⟩ = some (.slice a n cap)
  c1 : w.cell? ⟨p, 1, none⟩ = some (.slice a2 n2 cap2)
  lt : p < w.heap.size
  cm : Cm w a n C
  hs : Hs w a2 n2 H
theorem InBox.below {w w' : World} {p : Nat} {a : Option Addr} {n cap : Nat} {C : List M.Com} {a2 : Option Addr} {n2 cap2 : Nat} {H : List M.Hd} (h : InBox w p a n cap C a2 n2 cap2 H) (hb : Below w.heap.size w w') : InBox w' p a n cap C a2 n2 cap2 H :=
  ⟨(hb.cell (p := ⟨p, 0, none⟩) h.lt).trans h.c0, (hb.cell (p := ⟨p, 1, none⟩) h.lt).trans h.c1, Nat.lt_of_lt_of_le h.lt hb.size, h.cm.below hb (Nat.le_refl _), h.hs.below hb (Nat.le_refl _)⟩
theorem InBox.new (w : World) (a : Option Addr) (n cap : Nat) (C : List M.Com) (a2 : Option Addr) (n2 cap2 : Nat) (H : List M.Hd) (hC : Cm w a n C) (hH : Hs w a2 n2 H) : InBox (w.alloc (.cells #[.slice a n cap, .slice a2 n2 cap2] 25)) w.heap.size a n cap C a2 n2 cap2 H := by
  have hb : Below w.heap.size w (w.alloc (.cells #[.slice a n cap, .slice a2 n2 cap2] 25)) := (Below.refl _ _).alloc (Nat.le_refl _) _
  exact ⟨by simp [go_sem], by simp [go_sem], by simp, hC.below hb (Nat.le_refl _), hH.below hb (Nat.le_refl _)⟩
theorem M.hat_zero {C : List M.Com} {H : List M.Hd} {s : ByteArray} (h : M.hchk C H s ≠ 0) : M.hat C H s = 0 := by unfold M.hat; rw [if_pos h]
end Go.Proofs.YtcgpgflnihjpiafGreat

/- repo.Head. -/
namespace Go.Proofs.YtcgpgflnihjpiafGreat
open Go.RowKit Go.Shelf

theorem head1_any (x : M.Hd) (q : Nat) (s : ByteArray) (w : World) (hq : w.cell? ⟨q, 0, none⟩ = some (.string s)) (hql : q < w.heap.size) :
    Calls Tryz.prog 39 #[.agg #[.string x.1, .int .i64 x.2], .pointer (some ⟨q, 0, none⟩)] w fun e w' => e = .returned (.bool (M.alike x.1 s)) ∧ Below w.heap.size w w' := by
  have hb : Below w.heap.size w (w.alloc (.cells #[.string x.1, .int .i64 x.2] 71)) := (Below.refl _ _).alloc (Nat.le_refl _) _
  have hq1 : (w.alloc (.cells #[.string x.1, .int .i64 x.2] 71)).cell? ⟨q, 0, none⟩ = some (.string s) := (hb.cell (p := ⟨q, 0, none⟩) hql).trans hq
  go_enter Tryz.func39, Tryz.ntmps39
  go_wp2
  go_ret
  exact ⟨rfl, hb⟩



set_option maxHeartbeats 4000000 in
theorem head_any (a : Option Addr) (n cap : Nat) (C : List M.Com) (a2 : Option Addr) (n2 cap2 : Nat) (H : List M.Hd) (s : ByteArray) (w : World) (hC : Cm w a n C) (hn : n ≤ 9223372036854775807) (hH : Hs w a2 n2 H) (hn2 : n2 ≤ 9223372036854775807) :
    Calls Tryz.prog 13 #[.agg #[.slice a n cap, .slice a2 n2 cap2], .string s] w fun e w' => e = .returned (.tuple #[.int .i64 (M.hat C H s), .int .i64 (M.hchk C H s)]) ∧ Below w.heap.size w w' := by
  obtain ⟨p, hp⟩ : ∃ p, p = w.heap.size := ⟨_, rfl⟩
  have I0 := InBox.new w a n cap C a2 n2 cap2 H hC hH
  have hb0 : Below w.heap.size w (w.alloc (.cells #[.slice a n cap, .slice a2 n2 cap2] 25)) := (Below.refl _ _).alloc (Nat.le_refl _) _
  obtain ⟨W, hW⟩ : ∃ W, W = (w.alloc (.cells #[.slice a n cap, .slice a2 n2 cap2] 25)).alloc (.cells #[.string s] 9) := ⟨_, rfl⟩
  have I1 := I0.below (w' := W) (by rw [hW]; exact (Below.refl _ _).alloc (Nat.le_refl _) _)
  have hb : Below w.heap.size w W := by rw [hW]; exact hb0.alloc (by simp) _
  have hq : W.cell? ⟨p + 1, 0, none⟩ = some (.string s) := by rw [hW, hp]; simp [go_sem]
  have hqW : p + 1 < W.heap.size := by rw [hW, hp]; simp
  rw [← hp] at I1
  have q0 := I1.c0
  have q1 := I1.c1
  have HK := rcheck_any a n cap C a2 n2 cap2 H W I1.cm hn I1.hs hn2
  obtain ⟨c, hc⟩ : ∃ c, c = M.rchk C H := ⟨_, rfl⟩
  rw [← hc] at HK
  have HCc : Aside (c = M.rchk C H) := hc
  have HKK : Hid (Calls Tryz.prog 11 #[.agg #[.slice a n cap, .slice a2 n2 cap2]] W fun e w' => e = .returned (.int .i64 c) ∧ Below W.heap.size W w') := HK
  have HI : Aside (InBox W p a n cap C a2 n2 cap2 H) := I1
  have HQ : Aside (W.cell? ⟨p + 1, 0, none⟩ = some (.string s)) := hq
  have HW : Hid (W = (w.alloc (.cells #[.slice a n cap, .slice a2 n2 cap2] 25)).alloc (.cells #[.string s] 9)) := hW
  have HP : Aside (p = w.heap.size) := hp
  have HHl : Aside (H.length = n2) := hH.1
  clear hW HK hc hp I0 I1 hb0 hC hH hq
  go_enter Tryz.func13, Tryz.ntmps13
  go_wp2_with fail
  rw [← HW.out, ← HP.out]
  go_wp2_with fail
  refine HKK.out.mono ?_
  rintro e w1 ⟨rfl, hb1⟩
  have J1 := HI.out.below hb1
  have d0 := J1.c0
  have d1 := J1.c1
  have dq : w1.cell? ⟨p + 1, 0, none⟩ = some (.string s) := (hb1.cell (p := ⟨p + 1, 0, none⟩) hqW).trans HQ.out
  have hq1 : p + 1 < w1.heap.size := Nat.lt_of_lt_of_le hqW hb1.size
  have HJ : Aside (InBox w1 p a n cap C a2 n2 cap2 H) := J1
  clear J1 q0 q1
  by_cases hz : c = 0
  · have hne : (c != 0) = false := by simp [hz]
    have HZ : Aside (M.rchk C H = 0) := by unfold Aside; rw [← HCc.out]; exact hz
    clear hz
    have K := index_any 39 [.pointer (some ⟨p + 1, 0, none⟩)] (enters_of Tryz.func39 (by kernel_rfl) rfl) (fun h => M.alike h.1 s) a2 n2 cap2 H w1 HJ.out.hs hn2 (fun W' x hx hbx => head1_any x (p + 1) s W' ((hbx.cell (p := ⟨p + 1, 0, none⟩) hq1).trans dq) (Nat.lt_of_lt_of_le hq1 hbx.size))
    have KK : Hid (Calls Tryz.prog 38 #[.slice a2 n2 cap2, .func (.func 39) #[] #[.pointer (some ⟨p + 1, 0, none⟩)]] w1 fun e w' => e = .returned (.int .i64 (M.plc H s)) ∧ Below w1.heap.size w1 w') := K
    have hpl := M.plc_lt H s
    obtain ⟨i, hi⟩ : ∃ i, M.plc H s = i := ⟨_, rfl⟩
    rw [hi] at KK hpl
    rw [HHl.out] at hpl
    have HIi : Aside (M.plc H s = i) := hi
    clear K hi dq
    go_wp2_with fail
    refine KK.out.mono ?_
    rintro e w2 ⟨rfl, hb2⟩
    have b2 := dbelow2 hb1 hb2
    have J2 := HJ.out.below hb2
    have e0 := J2.c0
    have e1 := J2.c1
    clear d0 d1
    rcases hpl with rfl | ⟨h0, h1⟩
    · have E : Aside (M.hchk C H s = 5) := by unfold Aside M.hchk; rw [if_neg (by rw [HZ.out]; simp), HIi.out, if_pos (by omega)]
      clear J2
      go_wp2
      go_ret2
      exact ⟨ret_pair (M.hat_zero (by rw [E.out]; simp)).symm E.out.symm, hb.trans (b2.mono hb.size)⟩
    · obtain ⟨k, rfl⟩ : ∃ k : Nat, i = (k : Int) := ⟨i.toNat, by omega⟩
      have hk : k < n2 := by omega
      have E : Aside (M.hchk C H s = 0) := by unfold Aside M.hchk; rw [if_neg (by rw [HZ.out]; simp), HIi.out, if_neg (by omega)]
      obtain ⟨x, hx⟩ : ∃ x, (H.getD k M.hd0).2 = x := ⟨_, rfl⟩
      have E2 : Aside (M.hat C H s = x) := by unfold Aside M.hat; rw [if_neg (by rw [E.out]; simp), HIi.out, ← hx]; rfl
      obtain ⟨hb3, ho, rfl, c3⟩ : ∃ b off, a2 = some ⟨b, off, none⟩ ∧ w2.cell? ⟨b, off + k * 2 + 1, none⟩ = some (.int .i64 x) := by
        rcases J2.hs.cases with ⟨h0, _⟩ | ⟨b, off, ea, _, _, hB, hc⟩
        · omega
        · exact ⟨b, off, ea, by rw [(hc k hk).2.1, hx]⟩
      have hlt0 : decide ((k : Int) < 0) = false := by simp
      clear J2 hx h0
      go_wp2
      go_ret2
      exact ⟨ret_pair E2.out.symm E.out.symm, hb.trans (b2.mono hb.size)⟩
  · have hne : (c != 0) = true := by simp [hz]
    have E : Aside (M.hchk C H s = c) := by unfold Aside M.hchk; rw [if_pos (by rw [← HCc.out]; exact hz)]; exact HCc.out.symm
    have HZ : Aside (c ≠ 0) := hz
    clear hz
    go_wp2
    go_ret2
    exact ⟨ret_pair (M.hat_zero (by rw [E.out]; exact HZ.out)).symm E.out.symm, hb.trans (hb1.mono hb.size)⟩
end Go.Proofs.YtcgpgflnihjpiafGreat

/- One commit more in a row of the own. -/
namespace Go.Proofs.YtcgpgflnihjpiafGreat
open Go.RowKit

/-- One commit more. -/
theorem OwnK.append {w w1 : World} {base : Nat} {v v' : Value} {C : List M.Com} {c : M.Com} {p : Value × Value} {vals : List (Value × Value)} (hl : vals.length = C.length) (h1 : w.ownsRow base 51 2 v C.length (encP vals)) (h2 : ∀ i, i < C.length → OwnCo w base (vals.getD i vp0) (C.getD i ([], [])))
    (hp : OwnCo w base p c) (h3 : w1.ownsRow base 51 2 v' (C.length + 1) (encP vals ++ [p.1, p.2])) (hg : w.grownBy w1 v.ownBlock) : OwnK w1 base v' (C ++ [c]) := by
  have no : ∀ e, e ≠ 51 → ∀ r, v.ownBlock = some r → ∀ cur, w.heap[r]? ≠ some (.cells cur e (0, 0)) := by
    intro e he r hr cur hc
    rcases h1.2 with ⟨rfl, _⟩ | ⟨g, cap, cur', rfl, _, hgb, _⟩
    · simp [Value.ownBlock] at hr
    · obtain rfl : g = r := by simpa [Value.ownBlock] using hr
      rw [hgb] at hc
      simp at hc
      exact he hc.2.symm
  have keep : ∀ q d, OwnCo w base q d → OwnCo w1 base q d := fun q d h => ⟨ownsRow_elsewhere h.1 hg (no _ (by decide)), ownsRow_elsewhere h.2.1 hg (no _ (by decide)), h.2.2⟩
  refine ⟨vals ++ [p], by simp [hl], ?_, fun i hi => ?_⟩
  · rw [encP_append, List.length_append]
    exact h3
  · by_cases hlt : i < C.length
    · have e1 : (vals ++ [p]).getD i vp0 = vals.getD i vp0 := by simp [List.getD, List.getElem?_append_left (show i < vals.length by omega)]
      have e2 : (C ++ [c]).getD i ([], []) = C.getD i ([], []) := by simp [List.getD, List.getElem?_append_left hlt]
      rw [e1, e2]
      exact keep _ _ (h2 i hlt)
    · obtain rfl : i = C.length := by simp at hi; omega
      have e1 : (vals ++ [p]).getD C.length vp0 = p := by rw [← hl]; simp [List.getD]
      have e2 : (C ++ [c]).getD C.length ([], []) = c := by simp [List.getD]
      rw [e1, e2]
      exact keep _ _ hp
end Go.Proofs.YtcgpgflnihjpiafGreat

/- A desk. -/
namespace Go.Proofs.YtcgpgflnihjpiafGreat
open Go.RowKit

/-- A desk: its block D, what lies on it. -/
def DeskAt (w : World) (base D : Nat) (C : List M.Com) (H : List M.Hd) (A : List Int) : Prop :=
  ∃ x y z, w.heap[D]? = some (.cells #[x, y, z] 82 (0, 0)) ∧ base ≤ D ∧ OwnK w base x C ∧ OwnH w base y H ∧ OwnI w base z A
theorem DeskAt.lt {w : World} {base D : Nat} {C : List M.Com} {H : List M.Hd} {A : List Int} (h : DeskAt w base D C H A) : D < w.heap.size := by
  obtain ⟨x, y, z, h1, _⟩ := h
  exact (Array.getElem?_eq_some_iff.1 h1).1
theorem DeskAt.later {w w' : World} {base D : Nat} {C : List M.Com} {H : List M.Hd} {A : List Int} (h : DeskAt w base D C H A) (hb : Below w.heap.size w w') : DeskAt w' base D C H A := by
  obtain ⟨x, y, z, h1, h2, h3, h4, h5⟩ := h
  exact ⟨x, y, z, (hb.block D (Array.getElem?_eq_some_iff.1 h1).1).trans h1, h2, h3.later hb, h4.later hb, ownsRow_later h5 hb⟩
end Go.Proofs.YtcgpgflnihjpiafGreat

/- slices.Clone of rows, whatever they are. -/
namespace Go.Proofs.YtcgpgflnihjpiafGreat
open Go.RowKit

/-- slices.Clone of rows that are there. -/
theorem cloned_some (ad : Addr) (n cap : Nat) (l : List (Int × Int)) (w : World) (hn : n ≤ 1000) (h : Rd w (some ad) n l) :
    Calls Tryz.prog 88 #[.slice (some ad) n cap] w fun e w' => ∃ v, e = .returned v ∧ Own w' w.heap.size v l ∧ Below w.heap.size w w' := by
  have hnn : ∀ W, (binOp .eql 49 (.slice (some ad) n cap) (.slice none 0 0)).run Tryz.prog W = .ok (.bool false) W := fun W => by
    have h := Lib.run_eql_slice_nil (P := Tryz.prog) W 49 98 (some ad) n cap 0 0 Tryz.underlying49
    simpa using h
  have HR : Hid (Rd (w.alloc (.cells #[] 98)) (some ad) n l) := h.below ((Below.refl _ _).alloc (Nat.le_refl _) _) (Nat.le_refl _)
  have HO : Hid (Own (w.alloc (.cells #[] 98)) w.heap.size (.slice (some ⟨w.heap.size, 0, none⟩) 0 0) []) := World.ownsRow_made (base := w.heap.size) (e := 98) (size := 2) w #[] 0 (Nat.le_refl _) (by simp [maxLen]) rfl
  clear h
  go_enter Tryz.func88, Tryz.ntmps88
  go_wp2_with (at_builtin; refine append_rd rfl _ _ rfl w.heap.size _ [] rfl HO.out (some ad) n cap l rfl HR.out (by simp) (by simp; omega) (by simp) ?_)
  intro v' w' ho' hb3
  have HO' : Hid (Own w' w.heap.size v' l) := ho'
  have hb4 : Below w.heap.size w w' := ((Below.refl _ _).alloc (Nat.le_refl _) _).trans hb3
  clear ho' hb3
  go_wp2
  go_ret
  exact ⟨_, rfl, HO'.out, hb4⟩

theorem cloned_nil (w : World) :
    Calls Tryz.prog 88 #[.slice none 0 0] w fun e w' => e = .returned (.slice none 0 0) ∧ w' = w := by
  have hnn : ∀ W, (binOp .eql 49 (.slice none 0 0) (.slice none 0 0)).run Tryz.prog W = .ok (.bool true) W := fun W => by
    have h := Lib.run_eql_slice_nil (P := Tryz.prog) W 49 98 none 0 0 0 0 Tryz.underlying49
    simpa using h
  go_enter Tryz.func88, Tryz.ntmps88
  go_wp2
  go_ret
  exact ⟨rfl, rfl⟩
theorem cloned_any (a : Option Addr) (n cap : Nat) (l : List (Int × Int)) (w : World) (hn : n ≤ 1000) (h : Rd w a n l) (hnil : a = none → n = 0 ∧ cap = 0) :
    Calls Tryz.prog 88 #[.slice a n cap] w fun e w' => ∃ v, e = .returned v ∧ Own w' w.heap.size v l ∧ Below w.heap.size w w' := by
  cases a with
  | none =>
    obtain ⟨rfl, rfl⟩ := hnil rfl
    have e : l = [] := List.eq_nil_of_length_eq_zero h.1
    subst e
    refine (cloned_nil w).mono ?_
    rintro e w' ⟨rfl, rfl⟩
    exact ⟨_, rfl, World.ownsRow_nil _ _ _ _, Below.refl _ _⟩
  | some ad => exact cloned_some ad n cap l w hn h
end Go.Proofs.YtcgpgflnihjpiafGreat
