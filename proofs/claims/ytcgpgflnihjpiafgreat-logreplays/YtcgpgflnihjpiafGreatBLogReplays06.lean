/- A pen: Bytes, Pairs, Text, Written. -/
import Derived.Test.YtcgpgflnihjpiafGreatBLogReplays05
import Derived.Test.YtcgpgflnihjpiafGreatBLogReplays01
import Derived.Test.YtcgpgflnihjpiafGreatBLogReplays02
import Derived.Lib.Bytealg
import Derived.Shelf.Abstract
import Derived.Shelf.SlSortCmp.SmallK
import Derived.Test.YtcgpgflnihjpiafGreatBLogReplays03
import Derived.Lib.OthersKept
import Derived.Lib.SliceRun
namespace Go.Proofs.YtcgpgflnihjpiafGreat
open Go.RowKit Go.Lib

/-- Numbers that lie in a block of their own stay whatever is put. -/
theorem ri_kept {w w' : World} {k : Nat} {ns : List Int} (h : w.heap[k]? = some (.cells (ns.map (Value.int .i64)).toArray 3 (0, 0))) (hk : Kp w w') : Ri w' (some ⟨k, 0, none⟩) ns.length ns := by
  have h1 := hk k _ _ (by decide) (by decide) h
  refine ⟨rfl, Or.inr ⟨k, 0, rfl, (Array.getElem?_eq_some_iff.1 h1).1, fun i hi => ?_⟩⟩
  rw [cell_of_row _ _ _ _ _ _ h1]
  simp [List.getD, hi]

set_option maxRecDepth 100000 in
set_option maxHeartbeats 4000000 in
theorem pbytes_any (b base : Nat) (l : M.By) (ov : Bool) (a : Option Addr) (m cap : Nat) (ns : List Int) (w : World) (hP : PenAt w base b l ov) (hr : ∀ w', Below base w w' → Kp w w' → Ri w' a m ns) (hm : m ≤ 1000) (hll : l.length ≤ 400000) :
    Calls Tryz.prog 60 #[.pointer (some ⟨b, 0, none⟩), .slice a m cap] w fun e w' => (∃ v, e = .returned v) ∧ PenAt w' base b (M.pnL false (l, ov) ns).1 (M.pnL false (l, ov) ns).2 ∧ Below base w w' ∧ Kp w w' := by
  have K := pput1_any b base l ov a m cap ns w hP hr hm (fun k => by
    have h1 := M.pnL_len false (l, ov) (ns.take k)
    have h2 : (ns.take k).length ≤ m := by rw [← (hr w (Below.refl _ _) (Kp.refl _)).1, List.length_take]; omega
    simp only at h1
    omega)
  have HK : Hid (Calls Tryz.prog 107 #[.pointer (some ⟨b, 0, none⟩), .int .i64 256, .slice a m cap] w fun e w' => (∃ v, e = .returned v) ∧ PenAt w' base b (M.pnL false (l, ov) ns).1 (M.pnL false (l, ov) ns).2 ∧ Below base w w' ∧ Kp w w') := K
  clear K hP hr
  go_enter Tryz.func60, Tryz.ntmps60
  go_wp2_with fail
  refine HK.out.mono ?_
  rintro e w1 ⟨⟨v, rfl⟩, h1, h2, h3⟩
  have H1 : Hid (PenAt _ _ _ _ _) := h1
  clear h1
  go_wp2
  go_end0
  exact ⟨⟨_, rfl⟩, H1.out, h2, h3⟩
set_option maxRecDepth 100000 in
set_option maxHeartbeats 4000000 in
theorem ppairs_any (b base : Nat) (l : M.By) (ov : Bool) (a : Option Addr) (m cap : Nat) (ns : List Int) (w : World) (hP : PenAt w base b l ov) (hr : ∀ w', Below base w w' → Kp w w' → Ri w' a m ns) (hm : m ≤ 1000) (hll : l.length ≤ 400000) :
    Calls Tryz.prog 62 #[.pointer (some ⟨b, 0, none⟩), .slice a m cap] w fun e w' => (∃ v, e = .returned v) ∧ PenAt w' base b (M.pnL true (l, ov) ns).1 (M.pnL true (l, ov) ns).2 ∧ Below base w w' ∧ Kp w w' := by
  have K := pput2_any b base l ov a m cap ns w hP hr hm (fun k => by
    have h1 := M.pnL_len true (l, ov) (ns.take k)
    have h2 : (ns.take k).length ≤ m := by rw [← (hr w (Below.refl _ _) (Kp.refl _)).1, List.length_take]; omega
    simp only at h1
    omega)
  have HK : Hid (Calls Tryz.prog 107 #[.pointer (some ⟨b, 0, none⟩), .int .i64 65536, .slice a m cap] w fun e w' => (∃ v, e = .returned v) ∧ PenAt w' base b (M.pnL true (l, ov) ns).1 (M.pnL true (l, ov) ns).2 ∧ Below base w w' ∧ Kp w w') := K
  clear K hP hr
  go_enter Tryz.func62, Tryz.ntmps62
  go_wp2_with fail
  refine HK.out.mono ?_
  rintro e w1 ⟨⟨v, rfl⟩, h1, h2, h3⟩
  have H1 : Hid (PenAt _ _ _ _ _) := h1
  clear h1
  go_wp2
  go_end0
  exact ⟨⟨_, rfl⟩, H1.out, h2, h3⟩

theorem strCells_b8 (s : M.By) : strCells (M.str s) = b8 s := by
  simp [strCells, M.str, b8]
/-- A text's bytes are appended. -/
theorem append_text {w : World} {ops : Array Oper} {rest : List Oper} {o : Oper} {a : Act} {Q : Exit → Act → World → Prop} (hgd : o.guard = none) (s x : Operand)
    (ho : o.op = .call { callee := .builtin .append, args := #[s, x], argTypes := #[100, 9] })
    (base : Nat) (v : Value) (l t : M.By) (hs : a.eval s = v) (hx : a.eval x = .string (M.str t)) (hown : OwnB w base v l)
    (hbig : l.length + t.length ≤ 1000000) (hbase : base ≤ w.heap.size)
    (h : ∀ v' w', OwnB w' base v' (l ++ t) → w.grownBy w' v.ownBlock → wpList Tryz.prog ops Q rest (a.put o.dst v') w') : wpList Tryz.prog ops Q (o :: rest) a w := by
  obtain ⟨i0, hi, hz0, hz1, hz2⟩ := info_parts infoU8
  obtain ⟨v', w', hrun, ho', hg, _⟩ := run_append_own_string (P := Tryz.prog) w base 100 9 o.type 5 i0 (by kernel_rfl) (by kernel_rfl) hi hz0 hz1 hz2 v l.length (b8 l) hown (M.str t) (by rw [M.str_size]; unfold maxLen; omega) (by rw [M.str_size]; omega) hbase
  have hk := h v' w' (by unfold OwnB; rw [b8_append, List.length_append]; rw [M.str_size, strCells_b8] at ho'; exact ho') hg
  refine wpList_plain hgd fun K hK => ?_
  unfold Oper.wp execOp
  simp only [ho, resolve, invoke, builtin, Sem.run_bind, Sem.run_pure, Result.andThen_ok, List.map_toArray, List.map_cons, List.map_nil, hs, hx, hrun]
  exact hK _ _ hk

set_option maxRecDepth 100000 in
set_option maxHeartbeats 8000000 in
theorem ptext_any (b base : Nat) (l : M.By) (ov : Bool) (s : M.By) (w : World) (hP : PenAt w base b l ov) (hs : s.length ≤ 9223372036854775807) (hll : l.length ≤ 300000) :
    Calls Tryz.prog 61 #[.pointer (some ⟨b, 0, none⟩), .string (M.str s)] w fun e w' => (∃ v, e = .returned v) ∧ PenAt w' base b (M.pnT (l, ov) s).1 (M.pnT (l, ov) s).2 ∧ Below base w w' ∧ Kp w w' := by
  have hbb : base ≤ b := by obtain ⟨_, _, h, _⟩ := hP; exact h
  have hbs : base ≤ w.heap.size := Nat.le_trans hbb (Nat.le_of_lt hP.lt)
  obtain ⟨W, hW⟩ : ∃ W, W = w.alloc (.cells #[.int .i64 (s.length : Int)] 3) := ⟨_, rfl⟩
  have hb0 : Below w.heap.size w W := by rw [hW]; exact (Below.refl _ _).alloc (Nat.le_refl _) _
  have hW0 : W.heap[w.heap.size]? = some (.cells #[.int .i64 (s.length : Int)] 3 (0, 0)) := by rw [hW]; exact heap_alloc_new _ _
  have K := pbytes_any b base l ov (some ⟨w.heap.size, 0, none⟩) 1 1 [(s.length : Int)] W (hP.later hb0) (fun w' _ hk => ri_kept hW0 hk) (by omega) (by omega)
  have HK : Hid (Calls Tryz.prog 60 #[.pointer (some ⟨b, 0, none⟩), .slice (some ⟨w.heap.size, 0, none⟩) 1 1] W fun e w' => (∃ v, e = .returned v) ∧ PenAt w' base b (M.pnS false (l, ov) (s.length : Int)).1 (M.pnS false (l, ov) (s.length : Int)).2 ∧ Below base W w' ∧ Kp W w') := K
  have HW : Hid (W = w.alloc (.cells #[.int .i64 (s.length : Int)] 3)) := hW
  have hbel : Below base w W := hb0.mono hbs
  have hkp : Kp w W := Kp.of hb0
  obtain ⟨str, hstr⟩ : ∃ str, str = M.str s := ⟨_, rfl⟩
  have hsz : str.size = s.length := by rw [hstr, M.str_size]
  have HS : Hid (str = M.str s) := hstr
  rw [← hstr]
  obtain ⟨sl, hsl⟩ : ∃ sl, sl = s.length := ⟨_, rfl⟩
  have HSl : Hid (sl = s.length) := hsl
  have hsl8 : sl ≤ 9223372036854775807 := by omega
  rw [← hsl] at hsz HK HW
  have hlen := M.pnS_len false (l, ov) (sl : Int)
  have HT : Hid (M.pnT (l, ov) s = if (M.pnS false (l, ov) (sl : Int)).2 = true then M.pnS false (l, ov) (sl : Int) else ((M.pnS false (l, ov) (sl : Int)).1 ++ s, false)) := by rw [hsl]; rfl
  have HB : Hid ((M.pnS false (l, ov) (sl : Int)).2 = false → sl < 256) := M.pnS_small
  generalize M.pnS false (l, ov) (sl : Int) = st at *
  obtain ⟨l1, o1⟩ := st
  simp only at hlen
  clear K hP hW hstr hsl hs hb0 hW0
  go_enter Tryz.func61, Tryz.ntmps61
  go_wp2_with fail
  rw [← HW.out]
  refine HK.out.mono ?_
  rintro e w1 ⟨⟨v, rfl⟩, h1, h2, h3⟩
  obtain ⟨v1, blk, _, ob⟩ := h1
  obtain ⟨va, vn, vc, rfl⟩ : ∃ va vn vc, v1 = .slice va vn vc := by
    rcases ob.2 with ⟨e, _⟩ | ⟨g, c, _, e, _⟩
    · exact ⟨_, _, _, e⟩
    · exact ⟨_, _, _, e⟩
  have c0 : w1.cell? ⟨b, 0, none⟩ = some (.slice va vn vc) := by rw [cell_of_row _ _ _ _ _ _ blk]; rfl
  have c1 : w1.cell? ⟨b, 1, none⟩ = some (.bool o1) := by rw [cell_of_row _ _ _ _ _ _ blk]; rfl
  have hbw1 := hbel.trans h2
  have hkw1 := hkp.trans h3
  have Hblk : Hid (w1.heap[b]? = some (.cells #[.slice va vn vc, .bool o1] 102 (0, 0))) := blk
  have Hob : Hid (OwnB w1 base (.slice va vn vc) l1) := ob
  have hbs1 : base ≤ w1.heap.size := Nat.le_trans hbs hbw1.size
  clear h2 h3 blk ob hbel hkp HK
  cases o1 with
  | true =>
    go_wp2
    go_end0
    refine ⟨⟨_, rfl⟩, ?_, hbw1, hkw1⟩
    rw [HT.out]
    exact ⟨_, Hblk.out, hbb, Hob.out⟩
  | false =>
    have hs2 : sl < 256 := HB.out rfl
    rw [HS.out]
    have hbig : l1.length + s.length ≤ 1000000 := by rw [← HSl.out]; omega
    go_wp2_with (at_builtin; refine append_text rfl _ _ rfl base _ l1 s rfl rfl Hob.out hbig hbs1 ?_)
    intro v8 w8 o8 g8
    obtain ⟨qa, qn, qc, rfl⟩ : ∃ qa qn qc, v8 = .slice qa qn qc := by
      rcases o8.2 with ⟨e, _⟩ | ⟨g, c, _, e, _⟩
      · exact ⟨_, _, _, e⟩
      · exact ⟨_, _, _, e⟩
    obtain ⟨P1, P2, P3, P4⟩ := PenAt.put (m := s) Hblk.out hbb Hob.out hbs1 g8 o8
    have k8 : w8.cell? ⟨b, 0, none⟩ = some (.slice va vn vc) := by rw [cell_of_row _ _ _ _ _ _ P2]; rfl
    have f8 : w8.frozen? ⟨b, 0, none⟩ = false := frozen_of_row _ _ _ _ _ P2
    have HP1 : Hid (PenAt (w8.setCell ⟨b, 0, none⟩ (.slice qa qn qc)) base b (l1 ++ s) false) := P1
    have HP3 : Hid (Below base w (w8.setCell ⟨b, 0, none⟩ (.slice qa qn qc))) := hbw1.trans P3
    have HP4 : Hid (Kp w (w8.setCell ⟨b, 0, none⟩ (.slice qa qn qc))) := hkw1.trans P4
    clear P1 P2 P3 P4 o8 g8 c0 c1
    go_wp2
    go_end0
    refine ⟨⟨_, rfl⟩, ?_, HP3.out, HP4.out⟩
    rw [HT.out]
    exact HP1.out

set_option maxRecDepth 100000 in
set_option maxHeartbeats 8000000 in
theorem written_any (b base : Nat) (l : M.By) (ov : Bool) (w : World) (hP : PenAt w base b l ov) :
    Calls Tryz.prog 63 #[.pointer (some ⟨b, 0, none⟩)] w fun e w' => e = .returned (.tuple #[.string (M.str (if ov = true then [] else l)), .int .i64 (if ov = true then 3 else 0)]) ∧ Below w.heap.size w w' := by
  obtain ⟨v1, blk, _, ob⟩ := hP
  obtain ⟨va, vn, vc, rfl⟩ : ∃ va vn vc, v1 = .slice va vn vc := by
    rcases ob.2 with ⟨e, _⟩ | ⟨g, c, _, e, _⟩
    · exact ⟨_, _, _, e⟩
    · exact ⟨_, _, _, e⟩
  have c0 : w.cell? ⟨b, 0, none⟩ = some (.slice va vn vc) := by rw [cell_of_row _ _ _ _ _ _ blk]; rfl
  have c1 : w.cell? ⟨b, 1, none⟩ = some (.bool ov) := by rw [cell_of_row _ _ _ _ _ _ blk]; rfl
  have hcv : (convert 100 9 (.slice va vn vc)).run Tryz.prog w = .ok (.string (M.str l)) w := by
    rcases ob.2 with ⟨e, e2⟩ | ⟨g, c, cur, e, hg, hgb, h4, h5, h6, h7⟩
    · simp at e
      obtain ⟨rfl, rfl, rfl⟩ := e
      obtain rfl : l = [] := List.eq_nil_of_length_eq_zero (by simpa using e2)
      exact run_convert_nil_bytes w _ _ 5 _ (by kernel_rfl) (by kernel_rfl) (by kernel_rfl)
    · simp at e
      obtain ⟨rfl, rfl, rfl⟩ := e
      refine run_convert_bytes_back w _ _ 5 _ _ l (by kernel_rfl) (by kernel_rfl) (by kernel_rfl) (fun j hj => ?_)
      have hj2 : j < cur.size := by have := congrArg List.length h7; simp [b8] at this; omega
      rw [Addr.add_lit, cell_of_row _ _ _ _ _ _ hgb]
      have h8 : (cur.toList.take (l.length * 1))[j]? = (b8 l)[j]? := by rw [h7]
      rw [List.getElem?_take_of_lt (by omega)] at h8
      simp [b8, hj] at h8
      simpa using h8
  clear blk ob
  go_enter Tryz.func63, Tryz.ntmps63
  cases ov with
  | true =>
    go_wp2
    go_ret2
    exact ⟨by simp [M.str], Below.refl _ _⟩
  | false =>
    go_wp2
    go_ret2
    exact ⟨by simp, Below.refl _ _⟩
end Go.Proofs.YtcgpgflnihjpiafGreat

/- Bytes appended to bytes of the own; the reference's twoBytes, texted. -/
namespace Go.Proofs.YtcgpgflnihjpiafGreat
open Go.RowKit Go.Lib

/-- The bytes l lie in the block a. -/
def SrcB (w : World) (a : Nat) (l : M.By) : Prop := a < w.heap.size ∧ ∀ j u, (b8 l)[j]? = some u → w.cell? ((⟨a, 0, none⟩ : Addr).add j) = some u
theorem SrcB.keep {w w' : World} {a : Nat} {l : M.By} (h : SrcB w a l) (hb : w'.heap[a]? = w.heap[a]?) : SrcB w' a l := by
  refine ⟨?_, fun j u hj => ?_⟩
  · have h1 := h.1
    have : a < w'.heap.size := by
      rcases Nat.lt_or_ge a w'.heap.size with h2 | h2
      · exact h2
      · rw [Array.getElem?_eq_none h2, Array.getElem?_eq_getElem h1] at hb; cases hb
    exact this
  · rw [← h.2 j u hj, Addr.add_lit]
    exact World.cell?_of_block (a := ⟨a, 0 + j, none⟩) hb
theorem SrcB.later {w w' : World} {a : Nat} {l : M.By} (h : SrcB w a l) (hb : Below w.heap.size w w') : SrcB w' a l := h.keep (hb.block a h.1)
theorem srcB_one (w : World) (y : UInt8) : SrcB (w.alloc (.cells #[.int .u8 (y.toNat : Int)] 5)) w.heap.size [y] := by
  refine ⟨by simp, fun j u hj => ?_⟩
  match j, hj with
  | 0, hj => simp [b8] at hj; subst hj; simp [go_sem, Addr.add]
theorem srcB_two (w : World) (y z : UInt8) : SrcB (w.alloc (.cells #[.int .u8 (y.toNat : Int), .int .u8 (z.toNat : Int)] 5)) w.heap.size [y, z] := by
  refine ⟨by simp, fun j u hj => ?_⟩
  match j, hj with
  | 0, hj => simp [b8] at hj; subst hj; simp [go_sem, Addr.add]
  | 1, hj => simp [b8] at hj; subst hj; simp [go_sem, Addr.add]
theorem srcB_num (w : World) (n : Nat) (h : n < 256) : SrcB (w.alloc (.cells #[.int .u8 (n : Int)] 5)) w.heap.size [M.b1 (n : Int)] := by
  have e := M.b1_nat (n := (n : Int)) (by omega) (by omega)
  have := srcB_one w (M.b1 (n : Int))
  rw [e] at this
  exact this
theorem ownB_num (w : World) (n : Nat) (h : n < 256) : OwnB (w.alloc (.cells #[.int .u8 (n : Int)] 5)) w.heap.size (.slice (some ⟨w.heap.size, 0, none⟩) 1 1) [M.b1 (n : Int)] := by
  have e := M.b1_nat (n := (n : Int)) (by omega) (by omega)
  rw [← e, M.b1_of]
  rw [show M.b1 (n : Int) = M.b1 (n : Int) from rfl]
  exact ⟨rfl, Or.inr ⟨w.heap.size, 1, _, rfl, Nat.le_refl _, heap_alloc_new _ _, Nat.le_refl _, by simp [maxLen], rfl, rfl⟩⟩
theorem ownB_src {w : World} {base : Nat} {v : Value} {l : M.By} (h : OwnB w base v l) (hl : 0 < l.length) : ∃ a c, v = .slice (some ⟨a, 0, none⟩) l.length c ∧ SrcB w a l := by
  have h0 := h
  obtain ⟨h1, h2⟩ := h
  rcases h2 with ⟨rfl, hn⟩ | ⟨g, cap, cur, rfl, hb, hh, hc, hm, hs, hx⟩
  · omega
  · refine ⟨g, cap, rfl, (Array.getElem?_eq_some_iff.1 hh).1, fun j u hj => ?_⟩
    have hjl : j < (b8 l).length := (List.getElem?_eq_some_iff.1 hj).1
    have hjl : j < l.length := by simpa [b8] using hjl
    rw [Addr.add_lit, Nat.zero_add, World.ownsRow.cellAt h0 j (by omega)]
    exact hj
theorem ownB_slice {w : World} {base : Nat} {v : Value} {l : M.By} (h : OwnB w base v l) : ∃ a n c, v = .slice a n c := by
  rcases h.2 with ⟨e, _⟩ | ⟨g, c, _, e, _⟩
  · exact ⟨_, _, _, e⟩
  · exact ⟨_, _, _, e⟩
theorem ownB_conv {w : World} {base : Nat} {va : Option Addr} {vn vc : Nat} {l : M.By} (h : OwnB w base (.slice va vn vc) l) : (convert 100 9 (.slice va vn vc)).run Tryz.prog w = .ok (.string (M.str l)) w := by
  rcases h.2 with ⟨e, e2⟩ | ⟨g, c, cur, e, hg, hgb, h4, h5, h6, h7⟩
  · simp at e
    obtain ⟨rfl, rfl, rfl⟩ := e
    obtain rfl : l = [] := List.eq_nil_of_length_eq_zero (by simpa using e2)
    exact run_convert_nil_bytes w _ _ 5 _ (by kernel_rfl) (by kernel_rfl) (by kernel_rfl)
  · simp at e
    obtain ⟨rfl, rfl, rfl⟩ := e
    refine run_convert_bytes_back w _ _ 5 _ _ l (by kernel_rfl) (by kernel_rfl) (by kernel_rfl) (fun j hj => ?_)
    have hj2 : j < cur.size := by have := congrArg List.length h7; simp [b8] at this; omega
    rw [Addr.add_lit, cell_of_row _ _ _ _ _ _ hgb]
    have h8 : (cur.toList.take (l.length * 1))[j]? = (b8 l)[j]? := by rw [h7]
    rw [List.getElem?_take_of_lt (by omega)] at h8
    simp [b8, hj] at h8
    simpa using h8
theorem step_bys {w : World} {ops : Array Oper} {o : Oper} {a : Act} {K : Act → World → Prop} {Q : Exit → Act → World → Prop} {E : Prop} (hgd : o.guard = none) (s x : Operand)
    (ho : o.op = .call { callee := .builtin .append, args := #[s, x], argTypes := #[100, 100] })
    (base : Nat) (v : Value) (l : M.By) (hs : a.eval s = v) (hown : OwnB w base v l) (g m c : Nat) (l2 : M.By) (hx : a.eval x = .slice (some ⟨g, 0, none⟩) m c) (hl2 : l2.length = m) (hsrc : SrcB w g l2)
    (hbig : l.length + m ≤ 1000000) (hbase : base ≤ w.heap.size)
    (h : ∀ v' w', OwnB w' base v' (l ++ l2) → w.grownBy w' v.ownBlock → K (a.put o.dst v') w') : if Region.wanted o (yielded ops a.tmps) = true then Oper.wp Tryz.prog o a w K Q else E := by
  obtain ⟨i0, hi, hz0, hz1, hz2⟩ := info_parts infoU8
  refine step_append_any hgd s x _ ho base 5 i0 (.int .u8 0) 1 1 (by kernel_rfl) hi hz0 hz1 hz2 rfl (by omega) v l.length (b8 l) hs hown (some ⟨g, 0, none⟩) m c (b8 l2) hx (by simp [b8, hl2]) (fun ad' e j u hj => ?_) (fun e => by simp at e) (fun u hu => ?_) (by unfold maxLen; omega) (by omega) hbase (fun v' w' h1 h2 => h v' w' ?_ h2)
  · cases e
    exact hsrc.2 j u hj
  · simp [b8] at hu
    obtain ⟨y, _, rfl⟩ := hu
    rfl
  · unfold OwnB
    rw [b8_append, List.length_append, hl2]
    exact h1
theorem wpl_bys {w : World} {ops : Array Oper} {rest : List Oper} {o : Oper} {a : Act} {Q : Exit → Act → World → Prop} (hgd : o.guard = none) (s x : Operand)
    (ho : o.op = .call { callee := .builtin .append, args := #[s, x], argTypes := #[100, 100] })
    (base : Nat) (v : Value) (l : M.By) (hs : a.eval s = v) (hown : OwnB w base v l) (g m c : Nat) (l2 : M.By) (hx : a.eval x = .slice (some ⟨g, 0, none⟩) m c) (hl2 : l2.length = m) (hsrc : SrcB w g l2)
    (hbig : l.length + m ≤ 1000000) (hbase : base ≤ w.heap.size)
    (h : ∀ v' w', OwnB w' base v' (l ++ l2) → w.grownBy w' v.ownBlock → wpList Tryz.prog ops Q rest (a.put o.dst v') w') : wpList Tryz.prog ops Q (o :: rest) a w := by
  refine wpList_plain hgd fun K hK => ?_
  have := step_bys (ops := ops) (K := K) (Q := Q) (E := True) hgd s x ho base v l hs hown g m c l2 hx hl2 hsrc hbig hbase (fun v' w' h1 h2 => hK _ _ (h v' w' h1 h2))
  rwa [if_pos (by simp [Region.wanted, hgd])] at this
/-- What an append of bytes keeps. -/
theorem ownB_grown {w w' : World} {base : Nat} {v : Value} {l : M.By} (h : OwnB w base v l) (hg : w.grownBy w' v.ownBlock) (hb : base ≤ w.heap.size) : Below base w w' ∧ Kp w w' :=
  ⟨(Below.refl _ _).grown hg hb (fun k e => (World.ownsRow.lt h k e).1), Kp.grown hg (ownB_block h)⟩
theorem SrcB.grown {w w' : World} {a : Nat} {v : Value} {m : M.By} (h : SrcB w a m) (hg : w.grownBy w' v.ownBlock) (hne : ∀ k, v.ownBlock = some k → k ≠ a) : SrcB w' a m :=
  h.keep (hg.block a h.1 (fun e => hne a e.symm rfl))
theorem ownB_lt {w : World} {base : Nat} {v : Value} {l : M.By} (h : OwnB w base v l) : ∀ k, v.ownBlock = some k → k < w.heap.size := by
  intro k e
  obtain ⟨cur, t, hc, _⟩ := ownB_block h k e
  exact (Array.getElem?_eq_some_iff.1 hc).1

set_option maxRecDepth 100000 in
set_option maxHeartbeats 4000000 in
theorem twoB_any (n : Nat) (w : World) (hn : n < 65536) :
    Calls Tryz.prog 66 #[.int .i64 (n : Int)] w fun e w' => ∃ a c, e = .returned (.slice (some ⟨a, 0, none⟩) 2 c) ∧ SrcB w' a (M.b2 (n : Int)) ∧ w.heap.size ≤ a ∧ Below w.heap.size w w' := by
  obtain ⟨y, hy⟩ : ∃ y, y = UInt8.ofNat (n / 256) := ⟨_, rfl⟩
  obtain ⟨z, hz⟩ : ∃ z, z = UInt8.ofNat (n % 256) := ⟨_, rfl⟩
  have HY : Hid ((y.toNat : Int) = (n : Int) / 256) := by unfold Hid; rw [hy, UInt8.toNat_ofNat']; omega
  have HZ : Hid ((z.toNat : Int) = (n : Int) % 256) := by unfold Hid; rw [hz, UInt8.toNat_ofNat']; omega
  have HB : Hid (M.b2 (n : Int) = [y, z]) := by unfold Hid M.b2; rw [hy, hz]; rfl
  clear hy hz
  go_enter Tryz.func66, Tryz.ntmps66
  go_wp2
  go_ret
  rw [← HY.out, ← HZ.out]
  exact ⟨w.heap.size, 2, rfl, by rw [HB.out]; exact srcB_two w y z, Nat.le_refl _, (Below.refl _ _).alloc (Nat.le_refl _) _⟩

set_option maxRecDepth 100000 in
set_option maxHeartbeats 4000000 in
theorem texted_any (s : M.By) (w : World) (hs : s.length < 256) :
    Calls Tryz.prog 65 #[.string (M.str s)] w fun e w' => ∃ a c, e = .returned (.slice (some ⟨a, 0, none⟩) (s.length + 1) c) ∧ SrcB w' a (M.pT s) ∧ w.heap.size ≤ a ∧ Below w.heap.size w w' := by
  obtain ⟨t, ht⟩ : ∃ t, t = M.str s := ⟨_, rfl⟩
  obtain ⟨n, hn⟩ : ∃ n, n = s.length := ⟨_, rfl⟩
  have hts : t.size = n := by rw [ht, M.str_size, hn]
  obtain ⟨y, hy⟩ : ∃ y, y = M.b1 (s.length : Int) := ⟨_, rfl⟩
  have hyn : (y.toNat : Int) = (n : Int) := by rw [hy, M.b1_nat (by omega) (by omega), hn]
  have HO : Hid (OwnB (w.alloc (.cells #[.int .u8 (n : Int)] 5)) w.heap.size (.slice (some ⟨w.heap.size, 0, none⟩) 1 1) [y]) := by
    rw [← hyn]
    refine ⟨rfl, Or.inr ⟨w.heap.size, 1, #[.int .u8 (y.toNat : Int)], rfl, Nat.le_refl _, heap_alloc_new _ _, Nat.le_refl _, by simp [maxLen], rfl, rfl⟩⟩
  have HP : Hid (M.pT s = y :: s) := by unfold Hid M.pT; rw [hy]
  have HT : Hid (t = M.str s) := ht
  have HN : Aside (n = s.length) := hn
  have hn256 : n < 256 := by omega
  rw [← ht, ← hn]
  clear ht hn hy hyn hs
  go_enter Tryz.func65, Tryz.ntmps65
  go_wp2_with (at_builtin; refine append_text rfl _ _ rfl w.heap.size _ [y] s rfl (congrArg Value.string HT.out) HO.out (by have := HN.out; simp; omega) (by simp) ?_)
  intro v8 w8 o8 g8
  have b8' : Below w.heap.size w w8 := ((Below.refl _ _).alloc (Nat.le_refl _) _).trans (ownB_grown HO.out g8 (by simp)).1
  have o8 : OwnB w8 w.heap.size v8 (y :: s) := o8
  rw [← HP.out] at o8
  obtain ⟨a, c, hv, hsr⟩ := ownB_src o8 (by unfold M.pT; simp)
  have hpl : (M.pT s).length = n + 1 := by unfold M.pT; rw [List.length_cons, ← HN.out]
  rw [hpl] at hv
  subst hv
  have hwa : w.heap.size ≤ a := (World.ownsRow.lt o8 a rfl).1
  have HSr : Hid (SrcB w8 a (M.pT s)) := hsr
  clear o8 g8 hsr hpl
  go_wp2
  go_ret
  exact ⟨a, c, rfl, HSr.out, hwa, b8'⟩
end Go.Proofs.YtcgpgflnihjpiafGreat

/- Plain facts on repos that are read with noughts for what is not there, with no program in sight. -/
namespace Go.Proofs.YtcgpgflnihjpiafGreat.M

def eB : By → Int × By
  | [] => (0, [])
  | b :: t => ((b.toNat : Int), t)
def e2 (l : By) : Int × By := (256 * (eB l).1 + (eB (eB l).2).1, (eB (eB l).2).2)
def eN {α : Type} (f : By → α × By) : Nat → By → List α × By
  | 0, l => ([], l)
  | n + 1, l => ((f l).1 :: (eN f n (f l).2).1, (eN f n (f l).2).2)
def eL {α : Type} (f : By → α × By) (l : By) : List α × By := eN f (eB l).1.toNat (eB l).2
def eR (l : By) : (Int × Int) × By := (((eB l).1, (e2 (eB l).2).1), (e2 (eB l).2).2)
def eCo (l : By) : Com × By := (((eL eR l).1, (eL eB (eL eR l).2).1), (eL eB (eL eR l).2).2)
/-- A text: as much of it as there is. -/
def eT (l : By) : By × By := ((eB l).2.take (eB l).1.toNat, (eB l).2.drop (eB l).1.toNat)
def eHd (l : By) : (By × Int) × By := (((eT l).1, (eB (eT l).2).1), (eB (eT l).2).2)
def eRe (l : By) : (List Com × List (By × Int)) × By := (((eL eCo l).1, (eL eHd (eL eCo l).2).1), (eL eHd (eL eCo l).2).2)
theorem eN_snoc {α : Type} (f : By → α × By) (k : Nat) (l : By) : eN f (k + 1) l = ((eN f k l).1 ++ [(f (eN f k l).2).1], (f (eN f k l).2).2) := by
  induction k generalizing l with
  | zero => rfl
  | succ k ih =>
    rw [eN]
    conv => rhs; rw [eN]
    rw [ih]
    rfl
theorem eB_len (l : By) : (eB l).2.length ≤ l.length := by
  cases l with
  | nil => simp [eB]
  | cons b t => simp [eB]
theorem eB_range (l : By) : 0 ≤ (eB l).1 ∧ (eB l).1 < 256 := by
  cases l with
  | nil => simp [eB]
  | cons b t => have := b.toNat_lt; simp [eB]; omega
theorem eN_len {α : Type} (f : By → α × By) (k : Nat) (l : By) : (eN f k l).1.length = k := by
  induction k generalizing l with
  | zero => rfl
  | succ k ih => rw [eN]; simp [ih]
theorem eB_r {l t : By} {n : Int} (h : rB l = some (n, t)) : eB l = (n, t) := by
  cases l with
  | nil => simp [rB] at h
  | cons b u => simpa [rB, eB] using h
theorem e2_r {l t : By} {n : Int} (h : r2 l = some (n, t)) : e2 l = (n, t) := by
  match l, h with
  | [], h => simp [r2] at h
  | [x], h => simp [r2] at h
  | x :: y :: u, h => simpa [r2, e2, eB] using h
theorem eN_r {α : Type} {f : By → Option (α × By)} {g : By → α × By} (h : ∀ l x t, f l = some (x, t) → g l = (x, t)) : ∀ (n : Nat) (l : By) (xs : List α) (t : By), rN f n l = some (xs, t) → eN g n l = (xs, t)
  | 0, l, xs, t, hh => by simpa [rN, eN, eq_comm] using hh
  | n + 1, l, xs, t, hh => by
    rw [rN] at hh
    split at hh
    · simp at hh
    · rename_i x l1 hx
      split at hh
      · simp at hh
      · rename_i ys l2 hy
        simp only [Option.some.injEq, Prod.mk.injEq] at hh
        obtain ⟨rfl, rfl⟩ := hh
        rw [eN, h _ _ _ hx]
        simp only
        rw [eN_r h n _ _ _ hy]
theorem eL_r {α : Type} {f : By → Option (α × By)} {g : By → α × By} (h : ∀ l x t, f l = some (x, t) → g l = (x, t)) {l t : By} {xs : List α} (hh : rL f l = some (xs, t)) : eL g l = (xs, t) := by
  unfold rL at hh
  split at hh
  · simp at hh
  · rename_i n l1 hB
    unfold eL
    rw [eB_r hB]
    exact eN_r h _ _ _ _ hh
theorem eR_r {l t : By} {r : Int × Int} (h : rR l = some (r, t)) : eR l = (r, t) := by
  unfold rR at h
  split at h
  · simp at h
  · rename_i k l1 h1
    split at h
    · simp at h
    · rename_i o l2 h2
      simp only [Option.some.injEq, Prod.mk.injEq] at h
      obtain ⟨rfl, rfl⟩ := h
      unfold eR
      rw [eB_r h1]
      simp only
      rw [e2_r h2]
theorem eCo_r {l t : By} {c : Com} (h : rCo l = some (c, t)) : eCo l = (c, t) := by
  unfold rCo at h
  split at h
  · simp at h
  · rename_i k l1 h1
    split at h
    · simp at h
    · rename_i o l2 h2
      simp only [Option.some.injEq, Prod.mk.injEq] at h
      obtain ⟨rfl, rfl⟩ := h
      unfold eCo
      rw [eL_r (fun _ _ _ => eR_r) h1]
      simp only
      rw [eL_r (fun _ _ _ => eB_r) h2]
theorem eT_r {l t s : By} (h : rT l = some (s, t)) : eT l = (s, t) := by
  cases l with
  | nil => simp [rT] at h
  | cons b u =>
    rw [rT] at h
    split at h
    · simpa [eT, eB] using h
    · simp at h
theorem eHd_r {l t : By} {x : By × Int} (h : rHd l = some (x, t)) : eHd l = (x, t) := by
  unfold rHd at h
  split at h
  · simp at h
  · rename_i k l1 h1
    split at h
    · simp at h
    · rename_i o l2 h2
      simp only [Option.some.injEq, Prod.mk.injEq] at h
      obtain ⟨rfl, rfl⟩ := h
      unfold eHd
      rw [eT_r h1]
      simp only
      rw [eB_r h2]
theorem eRe_r {l t : By} {x : List Com × List (By × Int)} (h : rRe l = some (x, t)) : eRe l = (x, t) := by
  unfold rRe at h
  split at h
  · simp at h
  · rename_i k l1 h1
    split at h
    · simp at h
    · rename_i o l2 h2
      simp only [Option.some.injEq, Prod.mk.injEq] at h
      obtain ⟨rfl, rfl⟩ := h
      unfold eRe
      rw [eL_r (fun _ _ _ => eCo_r) h1]
      simp only
      rw [eL_r (fun _ _ _ => eHd_r) h2]

/-! ### heads' names as bytes -/
def hdB (h : Hd) : By × Int := (h.1.data.toList, h.2)
def hdS (h : By × Int) : Hd := (⟨h.1.toArray⟩, h.2)
theorem hdS_B (h : Hd) : hdS (hdB h) = h := by obtain ⟨⟨a⟩, n⟩ := h; simp [hdS, hdB]
theorem hdB_S (h : By × Int) : hdB (hdS h) = h := by obtain ⟨a, n⟩ := h; simp [hdS, hdB]
/-- The bytes of a repo. -/
def bytesR (C : List Com) (H : List Hd) : By := pRe (C, H.map hdB)
theorem right_ok {C : List Com} {H : List Hd} (h : rchk C H = 0) : okRe (C, H.map hdB) := by
  obtain ⟨a1, a2, a3, a4, a5⟩ := rchk_zero h
  obtain ⟨c1, c2⟩ := dchk_zero a1
  refine ⟨⟨by show C.length < 256; omega, fun c hc => ?_⟩, by simp; omega, fun x hx => ?_⟩
  · obtain ⟨i, hi, e⟩ := List.getElem_of_mem hc
    have hi : i < C.length := hi
    have := c2 i hi
    rw [show C.getD i ([], []) = c by simp [List.getD, hi, e]] at this
    obtain ⟨z1, z2, z3⟩ := this
    obtain ⟨z4, z5⟩ := (chk_zero c.1).1 z1
    refine ⟨⟨by omega, fun r hr => ?_⟩, by omega, fun p hp => ?_⟩
    · have := z5.1 r hr
      exact ⟨⟨by omega, by omega⟩, by omega, by omega⟩
    · have := z3 p hp
      exact ⟨by omega, by omega⟩
  · obtain ⟨y, hy, rfl⟩ := List.mem_map.1 hx
    have n1 : nam y.1 = true := by
      unfold named at a3; rw [List.all_eq_true] at a3; exact a3 y hy
    have n2 : y.1.size ≤ 8 := by
      by_cases h8 : 8 < y.1.size
      · rw [nam_long _ h8] at n1; simp at n1
      · omega
    obtain ⟨i, hi, e⟩ := List.getElem_of_mem hy
    have := inside_at a4 i hi
    rw [show H.getD i hd0 = y by simp [List.getD, hi, e]] at this
    refine ⟨?_, by show 0 ≤ y.2; omega, by show y.2 < 256; omega⟩
    show y.1.data.toList.length < 256
    rw [Array.length_toList]
    show y.1.size < 256
    omega
/-- The repo that a text is; none: there is none. -/
def readR (l : By) : Option (List Com × List Hd) := match rRe l with
  | some (x, []) => if rchk x.1 (x.2.map hdS) = 0 then some (x.1, x.2.map hdS) else none
  | _ => none
theorem map_SB (H : List Hd) : (H.map hdB).map hdS = H := by
  rw [List.map_map]
  conv => rhs; rw [← List.map_id H]
  exact List.map_congr_left fun h _ => hdS_B h
theorem map_BS (H : List (By × Int)) : (H.map hdS).map hdB = H := by
  rw [List.map_map]
  conv => rhs; rw [← List.map_id H]
  exact List.map_congr_left fun h _ => hdB_S h
theorem readR_p {C : List Com} {H : List Hd} (h : rchk C H = 0) : readR (bytesR C H) = some (C, H) := by
  unfold readR bytesR
  have := rRe_p (right_ok h) []
  rw [List.append_nil] at this
  rw [this]
  simp only
  rw [map_SB, if_pos h]
theorem readR_inv {l : By} {C : List Com} {H : List Hd} (h : readR l = some (C, H)) : l = bytesR C H ∧ rchk C H = 0 := by
  unfold readR at h
  split at h
  · rename_i x e
    split at h
    · rename_i hr
      simp only [Option.some.injEq, Prod.mk.injEq] at h
      obtain ⟨rfl, rfl⟩ := h
      refine ⟨?_, hr⟩
      unfold bytesR
      rw [map_BS, (rRe_inv e).1, List.append_nil]
    · simp at h
  · simp at h
/-- Read with noughts, and written again. -/
theorem readR_e (l : By) : readR l = if rchk (eRe l).1.1 ((eRe l).1.2.map hdS) = 0 ∧ bytesR (eRe l).1.1 ((eRe l).1.2.map hdS) = l then some ((eRe l).1.1, (eRe l).1.2.map hdS) else none := by
  cases e : readR l with
  | some x =>
    obtain ⟨C, H⟩ := x
    obtain ⟨h1, h2⟩ := readR_inv e
    unfold readR at e
    split at e
    · rename_i x ex
      have := eRe_r ex
      split at e
      · simp only [Option.some.injEq, Prod.mk.injEq] at e
        obtain ⟨rfl, rfl⟩ := e
        rw [this]
        rw [if_pos ⟨h2, h1.symm⟩]
      · simp at e
    · simp at e
  | none =>
    split
    · rename_i h
      have := readR_p h.1
      rw [h.2, e] at this
      simp at this
    · rfl
end Go.Proofs.YtcgpgflnihjpiafGreat.M

/- The commits of cross. -/
namespace Go.Proofs.YtcgpgflnihjpiafGreat
open Go.RowKit

theorem dbelow2 {w a b : World} (h : Below w.heap.size w a) (k : Below a.heap.size a b) : Below w.heap.size w b := h.trans (k.mono h.size)
def dfew : List (Int × Int) := [(2, 5), (7, 0), (9, 30)]
theorem dfew_any (w : World) : Calls Tryz.prog 117 #[] w fun e w' => e = .returned (.slice (some ⟨w.heap.size, 0, none⟩) 3 3) ∧ Rd w' (some ⟨w.heap.size, 0, none⟩) 3 dfew ∧ Below w.heap.size w w' := by
  go_enter Tryz.func117, Tryz.ntmps117
  go_wp2
  go_ret
  refine ⟨rfl, ⟨rfl, Or.inr ⟨w.heap.size, 0, rfl, by simp, fun i hi => ?_⟩⟩, (Below.refl _ _).alloc (Nat.le_refl _) _⟩
  match i, hi with
  | 0, _ => constructor <;> simp [go_sem, dfew]
  | 1, _ => constructor <;> simp [go_sem, dfew]
  | 2, _ => constructor <;> simp [go_sem, dfew]

def crossL : List M.Com := [([], []), (dfew, [0]), ([], [0]), ([], [1, 2]), ([], [1, 2]), ([], [])]
def crossX : List M.Com := [([], []), (dfew, [1]), ([], [0]), ([], [1, 2]), ([], [1, 2]), ([], [])]
def crossC (f b1 b2 b3 b4 : Nat) : Array Value :=
  #[.slice none 0 0, .slice none 0 0, .slice (some ⟨f, 0, none⟩) 3 3, .slice (some ⟨b1, 0, none⟩) 1 1, .slice none 0 0, .slice (some ⟨b2, 0, none⟩) 1 1,
    .slice none 0 0, .slice (some ⟨b3, 0, none⟩) 2 2, .slice none 0 0, .slice (some ⟨b4, 0, none⟩) 2 2, .slice none 0 0, .slice none 0 0]
/-- Where the commits of cross lie. -/
def CrossAt (w : World) (g : Nat) : Prop := ∃ f b1 b2 b3 b4, w.heap[g]? = some (.cells (crossC f b1 b2 b3 b4) 51 (0, 0)) ∧ f < g ∧ b1 < g ∧ b2 < g ∧ b3 < g ∧ b4 < g ∧
  Rd w (some ⟨f, 0, none⟩) 3 dfew ∧ Ri w (some ⟨b1, 0, none⟩) 1 [0] ∧ Ri w (some ⟨b2, 0, none⟩) 1 [0] ∧ Ri w (some ⟨b3, 0, none⟩) 2 [1, 2] ∧ Ri w (some ⟨b4, 0, none⟩) 2 [1, 2]
theorem CrossAt.below {w w' : World} {g : Nat} (h : CrossAt w g) (hb : Below w.heap.size w w') : CrossAt w' g := by
  obtain ⟨f, b1, b2, b3, b4, h1, k1, k2, k3, k4, k5, r1, r2, r3, r4, r5⟩ := h
  exact ⟨f, b1, b2, b3, b4, (hb.block g (Array.getElem?_eq_some_iff.1 h1).1).trans h1, k1, k2, k3, k4, k5, r1.below hb (Nat.le_refl _), r2.below hb (Nat.le_refl _), r3.below hb (Nat.le_refl _), r4.below hb (Nat.le_refl _), r5.below hb (Nat.le_refl _)⟩
theorem rd_nil (w : World) (a : Option Addr) : Rd w a 0 [] := ⟨rfl, Or.inl rfl⟩
theorem ri_nil (w : World) (a : Option Addr) : Ri w a 0 [] := ⟨rfl, Or.inl rfl⟩
theorem CrossAt.lt {w : World} {g : Nat} (h : CrossAt w g) : g < w.heap.size := by
  obtain ⟨f, b1, b2, b3, b4, h1, _⟩ := h
  exact (Array.getElem?_eq_some_iff.1 h1).1
theorem CrossAt.cm {w : World} {g : Nat} (h : CrossAt w g) : Cm w (some ⟨g, 0, none⟩) 6 crossL := by
  have hlt := h.lt
  obtain ⟨f, b1, b2, b3, b4, h1, k1, k2, k3, k4, k5, r1, r2, r3, r4, r5⟩ := h
  refine ⟨rfl, Or.inr ⟨g, 0, rfl, hlt, fun i hi => ?_⟩⟩
  rw [cell_of_row w g _ _ _ _ h1, cell_of_row w g _ _ _ _ h1]
  match i, hi with
  | 0, _ => exact ⟨_, _, _, _, _, _, rfl, rfl, rd_nil _ _, ri_nil _ _, by omega, by omega⟩
  | 1, _ => exact ⟨_, _, _, _, _, _, rfl, rfl, r1, r2, by omega, by omega⟩
  | 2, _ => exact ⟨_, _, _, _, _, _, rfl, rfl, rd_nil _ _, r3, by omega, by omega⟩
  | 3, _ => exact ⟨_, _, _, _, _, _, rfl, rfl, rd_nil _ _, r4, by omega, by omega⟩
  | 4, _ => exact ⟨_, _, _, _, _, _, rfl, rfl, rd_nil _ _, r5, by omega, by omega⟩
  | 5, _ => exact ⟨_, _, _, _, _, _, rfl, rfl, rd_nil _ _, ri_nil _ _, by omega, by omega⟩
theorem Rd.at {w w' : World} {b n B : Nat} {l : List (Int × Int)} (h : Rd w (some ⟨b, 0, none⟩) n l) (hb : b < B) (hB : Below B w w') : Rd w' (some ⟨b, 0, none⟩) n l := by
  obtain ⟨h1, h2⟩ := h
  refine ⟨h1, ?_⟩
  rcases h2 with h2 | ⟨b', off', ha, hlt, hc⟩
  · exact Or.inl h2
  · cases ha
    refine Or.inr ⟨b, 0, rfl, Nat.lt_of_lt_of_le hlt hB.size, fun i hi => ?_⟩
    rw [hB.cell (p := ⟨b, 0 + i * 2, none⟩) hb, hB.cell (p := ⟨b, 0 + i * 2 + 1, none⟩) hb]
    exact hc i hi
theorem Ri.at {w w' : World} {b n B : Nat} {l : List Int} (h : Ri w (some ⟨b, 0, none⟩) n l) (hb : b < B) (hB : Below B w w') : Ri w' (some ⟨b, 0, none⟩) n l := by
  obtain ⟨h1, h2⟩ := h
  refine ⟨h1, ?_⟩
  rcases h2 with h2 | ⟨b', off', ha, hlt, hc⟩
  · exact Or.inl h2
  · cases ha
    refine Or.inr ⟨b, 0, rfl, Nat.lt_of_lt_of_le hlt hB.size, fun i hi => ?_⟩
    rw [hB.cell (p := ⟨b, 0 + i, none⟩) hb]
    exact hc i hi
/-- With other parents of the second. -/
theorem CrossAt.poke {w : World} {g : Nat} (h : CrossAt w g) :
    Cm ((w.alloc (.cells #[.int .i64 1] 3)).setCell ⟨g, 3, none⟩ (.slice (some ⟨w.heap.size, 0, none⟩) 1 1)) (some ⟨g, 0, none⟩) 6 crossX := by
  have hlt := h.lt
  obtain ⟨f, b1, b2, b3, b4, h1, k1, k2, k3, k4, k5, r1, r2, r3, r4, r5⟩ := h.below ((Below.refl w.heap.size w).alloc (Nat.le_refl _) (.cells #[.int .i64 1] 3))
  have hb : Below g (w.alloc (.cells #[.int .i64 1] 3)) ((w.alloc (.cells #[.int .i64 1] 3)).setCell ⟨g, 3, none⟩ (.slice (some ⟨w.heap.size, 0, none⟩) 1 1)) := (Below.refl _ _).setCell (p := ⟨g, 3, none⟩) (Nat.le_refl _) _
  have h2 := heap_setCell_same _ g 3 _ _ (.slice (some ⟨w.heap.size, 0, none⟩) 1 1) h1
  have hnew : Ri ((w.alloc (.cells #[.int .i64 1] 3)).setCell ⟨g, 3, none⟩ (.slice (some ⟨w.heap.size, 0, none⟩) 1 1)) (some ⟨w.heap.size, 0, none⟩) 1 [1] := by
    refine ⟨rfl, Or.inr ⟨w.heap.size, 0, rfl, by simp [World.setCell], fun i hi => ?_⟩⟩
    have e := heap_setCell_other (w.alloc (.cells #[.int .i64 1] 3)) ⟨g, 3, none⟩ w.heap.size (.slice (some ⟨w.heap.size, 0, none⟩) 1 1) (by show w.heap.size ≠ g; omega)
    rw [World.cell?_of_block (a := ⟨w.heap.size, 0 + i, none⟩) e]
    exact ri_one w 1 i hi
  refine ⟨rfl, Or.inr ⟨g, 0, rfl, by simp [World.setCell]; omega, fun i hi => ?_⟩⟩
  rw [cell_of_row _ g _ _ _ _ h2, cell_of_row _ g _ _ _ _ h2]
  match i, hi with
  | 0, _ => exact ⟨_, _, _, _, _, _, rfl, rfl, rd_nil _ _, ri_nil _ _, by omega, by omega⟩
  | 1, _ => exact ⟨_, _, _, _, _, _, rfl, rfl, r1.at k1 hb, hnew, by omega, by omega⟩
  | 2, _ => exact ⟨_, _, _, _, _, _, rfl, rfl, rd_nil _ _, r3.at k3 hb, by omega, by omega⟩
  | 3, _ => exact ⟨_, _, _, _, _, _, rfl, rfl, rd_nil _ _, r4.at k4 hb, by omega, by omega⟩
  | 4, _ => exact ⟨_, _, _, _, _, _, rfl, rfl, rd_nil _ _, r5.at k5 hb, by omega, by omega⟩
  | 5, _ => exact ⟨_, _, _, _, _, _, rfl, rfl, rd_nil _ _, ri_nil _ _, by omega, by omega⟩

theorem cross_any (w : World) : Calls Tryz.prog 82 #[] w fun e w' => ∃ g, e = .returned (.slice (some ⟨g, 0, none⟩) 6 6) ∧ w.heap.size ≤ g ∧ CrossAt w' g ∧ Below w.heap.size w w' := by
  go_enter Tryz.func82, Tryz.ntmps82
  go_wp2_with fail
  refine (dfew_any _).mono ?_
  rintro e w1 ⟨rfl, r, hb⟩
  have R : Hid (Rd w1 (some ⟨w.heap.size, 0, none⟩) 3 dfew) := r
  have hs := hb.size
  have hlt : w.heap.size < w1.heap.size := by
    rcases r.2 with h | ⟨b, off, e, hl, _⟩
    · omega
    · cases e; exact hl
  clear r
  go_wp2
  go_ret
  have hbW := ((((hb.alloc hs (.cells #[.int .i64 0] 3)).alloc (by simp; omega) (.cells #[.int .i64 0] 3)).alloc (by simp; omega) (.cells #[.int .i64 1, .int .i64 2] 3)).alloc (by simp; omega) (.cells #[.int .i64 1, .int .i64 2] 3)).alloc (by simp; omega) (.cells (crossC w.heap.size w1.heap.size (w1.heap.size + 1) (w1.heap.size + 1 + 1) (w1.heap.size + 1 + 1 + 1)) 51)
  have hbR := (((((Below.refl w1.heap.size w1).alloc (Nat.le_refl _) (.cells #[.int .i64 0] 3)).alloc (by simp) (.cells #[.int .i64 0] 3)).alloc (by simp; omega) (.cells #[.int .i64 1, .int .i64 2] 3)).alloc (by simp; omega) (.cells #[.int .i64 1, .int .i64 2] 3)).alloc (by simp; omega) (.cells (crossC w.heap.size w1.heap.size (w1.heap.size + 1) (w1.heap.size + 1 + 1) (w1.heap.size + 1 + 1 + 1)) 51)
  refine ⟨w1.heap.size + 1 + 1 + 1 + 1, rfl, by omega, ⟨w.heap.size, w1.heap.size, w1.heap.size + 1, w1.heap.size + 1 + 1, w1.heap.size + 1 + 1 + 1, ?_, by omega, by omega, by omega, by omega, by omega, R.out.below hbR (Nat.le_refl _), ⟨rfl, Or.inr ⟨_, 0, rfl, by simp <;> omega, fun i hi => ?_⟩⟩, ⟨rfl, Or.inr ⟨_, 0, rfl, by simp <;> omega, fun i hi => ?_⟩⟩, ⟨rfl, Or.inr ⟨_, 0, rfl, by simp <;> omega, fun i hi => ?_⟩⟩, ⟨rfl, Or.inr ⟨_, 0, rfl, by simp <;> omega, fun i hi => ?_⟩⟩⟩, hbW⟩
  · rw [show w1.heap.size + 1 + 1 + 1 + 1 = ((((w1.alloc (.cells #[.int .i64 0] 3)).alloc (.cells #[.int .i64 0] 3)).alloc (.cells #[.int .i64 1, .int .i64 2] 3)).alloc (.cells #[.int .i64 1, .int .i64 2] 3)).heap.size by simp]
    exact heap_alloc_new _ _
  · obtain rfl : i = 0 := by omega
    simp [go_sem]
  · obtain rfl : i = 0 := by omega
    simp [go_sem]
  · match i, hi with
    | 0, _ => simp [go_sem]
    | 1, _ => simp [go_sem]
  · match i, hi with
    | 0, _ => simp [go_sem]
    | 1, _ => simp [go_sem]
end Go.Proofs.YtcgpgflnihjpiafGreat

/- strings.Compare; how Branch's sort compares heads. -/
namespace Go.Proofs.YtcgpgflnihjpiafGreat
open Go.RowKit Go.Shelf

def M.cmpS (s t : ByteArray) : Int := Lib.compareBytes s.data.toList t.data.toList

set_option maxRecDepth 100000 in
theorem comps_any (a b : ByteArray) (w : World) :
    Calls Tryz.prog 116 #[.string a, .string b] w fun e w' => e = .returned (.int .i64 (M.cmpS a b)) ∧ w' = w := by
  go_enter Tryz.func116, Tryz.ntmps116
  go_wp2
  rw [run_callFunc_extern Tryz.func141 (by kernel_rfl) (by kernel_rfl) (by kernel_rfl) (e := Extern.BytealgCompare.compare) (by kernel_rfl), Lib.run_compareString]
  simp only [Result.andThen]
  rw [Oper.upon_value]
  go_wp2
  go_ret
  exact ⟨rfl, rfl⟩

theorem scompare_any (a b : ByteArray) (w : World) :
    Calls Tryz.prog 79 #[.string a, .string b] w fun e w' => e = .returned (.int .i64 (M.cmpS a b)) ∧ w' = w := by
  go_enter Tryz.func79, Tryz.ntmps79
  go_wp2_with (go_at_call 116; refine (comps_any _ _ _).mono ?_; rintro e w' ⟨rfl, rfl⟩)
  go_ret
  exact ⟨rfl, rfl⟩

theorem branch4_any (x y : M.Hd) (w : World) :
    Calls Tryz.prog 78 #[.agg #[.string x.1, .int .i64 x.2], .agg #[.string y.1, .int .i64 y.2]] w fun e w' => e = .returned (.int .i64 (M.cmpS x.1 y.1)) ∧ w' = (w.alloc (.cells #[.string x.1, .int .i64 x.2] 71)).alloc (.cells #[.string y.1, .int .i64 y.2] 71) := by
  obtain ⟨s, i⟩ := x
  obtain ⟨t, j⟩ := y
  go_enter Tryz.func78, Tryz.ntmps78
  go_wp2_with (go_at_call 79; refine (scompare_any _ _ _).mono ?_; rintro e w' ⟨rfl, rfl⟩)
  go_ret
  exact ⟨rfl, rfl⟩

theorem cmp_less : ∀ (a b : List UInt8), decide (Lib.compareBytes a b < 0) = Op.bytesLess a b
  | [], [] => by simp [Lib.compareBytes, Op.bytesLess]
  | [], _ :: _ => by simp [Lib.compareBytes, Op.bytesLess]
  | _ :: _, [] => by simp [Lib.compareBytes, Op.bytesLess]
  | x :: a, y :: b => by
    have ih := cmp_less a b
    unfold Lib.compareBytes Op.bytesLess
    by_cases h1 : x < y
    · simp [h1]
    · by_cases h2 : y < x
      · have h3 : ¬ x = y := fun e => by subst e; exact UInt8.lt_irrefl _ h2
        simp [h1, h2, h3]
      · have h3 : x = y := UInt8.le_antisymm (UInt8.not_lt.1 h2) (UInt8.not_lt.1 h1)
        subst h3
        simp [ih]
theorem M.cmpS_less (s t : ByteArray) : decide (M.cmpS s t < 0) = M.less s t := by
  unfold M.cmpS M.less
  rw [cmp_less, ByteArray.toList_eq, ByteArray.toList_eq]
end Go.Proofs.YtcgpgflnihjpiafGreat

/- Heads that rise, and one more that is sorted in. -/
namespace Go.Proofs.YtcgpgflnihjpiafGreat
open Go.RowKit Go.Shelf Go.Sort

theorem bless_irr : ∀ a : List UInt8, Op.bytesLess a a = false
  | [] => rfl
  | x :: a => by simp [Op.bytesLess, bless_irr a]
theorem bless_trans : ∀ a b c : List UInt8, Op.bytesLess a b = true → Op.bytesLess b c = true → Op.bytesLess a c = true
  | _, _, [], _, h => by simp [Op.bytesLess] at h
  | _, [], _ :: _, h, _ => by simp [Op.bytesLess] at h
  | [], _ :: _, _ :: _, _, _ => by simp [Op.bytesLess]
  | x :: a, y :: b, z :: c, h1, h2 => by
    simp only [Op.bytesLess, Bool.or_eq_true, decide_eq_true_eq, Bool.and_eq_true, beq_iff_eq] at h1 h2 ⊢
    rcases h1 with h1 | ⟨rfl, h1⟩
    · rcases h2 with h2 | ⟨rfl, h2⟩
      · exact Or.inl (UInt8.lt_trans h1 h2)
      · exact Or.inl h1
    · rcases h2 with h2 | ⟨rfl, h2⟩
      · exact Or.inl h2
      · exact Or.inr ⟨rfl, bless_trans a b c h1 h2⟩
theorem M.less_trans {a b c : ByteArray} (h1 : M.less a b = true) (h2 : M.less b c = true) : M.less a c = true := bless_trans _ _ _ h1 h2
theorem M.less_asymm {a b : ByteArray} (h1 : M.less a b = true) : M.less b a = false := by
  cases h : M.less b a with
  | false => rfl
  | true =>
    have := M.less_trans h1 h
    unfold M.less at this
    rw [bless_irr] at this
    cases this

instance : Inhabited M.Hd := ⟨M.hd0⟩
/-- A head that is sorted into heads that rise. -/
def M.insH (x : M.Hd) : List M.Hd → List M.Hd
  | [] => [x]
  | h :: t => if M.less x.1 h.1 = true then x :: h :: t else h :: M.insH x t
def M.cmpH (x y : M.Hd) : Int := M.cmpS x.1 y.1
theorem M.ltOf_less (x y : M.Hd) : ltOf M.cmpH x y = M.less x.1 y.1 := M.cmpS_less x.1 y.1

theorem M.ins1 (a x : M.Hd) : insertionSort (ltOf M.cmpH) #[a, x] 0 2 = (M.insH x [a]).toArray := by
  unfold insertionSort
  rw [insOuter_go _ _ _ _ _ (by omega), insOuter_stop _ _ _ _ _ (by omega)]
  by_cases h : M.less x.1 a.1 = true
  · simp [insInner, M.ltOf_less, swp, M.insH, h]
  · simp [insInner, M.ltOf_less, M.insH, h]
theorem M.ins2 (a b x : M.Hd) (h1 : M.less a.1 b.1 = true) : insertionSort (ltOf M.cmpH) #[a, b, x] 0 3 = (M.insH x [a, b]).toArray := by
  have h2 := M.less_asymm h1
  unfold insertionSort
  rw [insOuter_go _ _ _ _ _ (by omega), insOuter_go _ _ _ _ _ (by omega), insOuter_stop _ _ _ _ _ (by omega)]
  have e1 : insInner (ltOf M.cmpH) 0 1 #[a, b, x] = #[a, b, x] := by simp [insInner, M.ltOf_less, h2]
  rw [show 0 + 1 = 1 from rfl, e1]
  by_cases hb : M.less x.1 b.1 = true
  · by_cases ha : M.less x.1 a.1 = true
    · simp [insInner, M.ltOf_less, swp, M.insH, ha, hb]
    · simp [insInner, M.ltOf_less, swp, M.insH, ha, hb]
  · have ha : ¬ M.less x.1 a.1 = true := fun h => hb (M.less_trans h h1)
    simp [insInner, M.ltOf_less, M.insH, ha, hb]
theorem M.ins3 (a b c x : M.Hd) (h1 : M.less a.1 b.1 = true) (k1 : M.less b.1 c.1 = true) : insertionSort (ltOf M.cmpH) #[a, b, c, x] 0 4 = (M.insH x [a, b, c]).toArray := by
  have h2 := M.less_asymm h1
  have k2 := M.less_asymm k1
  unfold insertionSort
  rw [insOuter_go _ _ _ _ _ (by omega), insOuter_go _ _ _ _ _ (by omega), insOuter_go _ _ _ _ _ (by omega), insOuter_stop _ _ _ _ _ (by omega)]
  have e1 : insInner (ltOf M.cmpH) 0 1 #[a, b, c, x] = #[a, b, c, x] := by simp [insInner, M.ltOf_less, h2]
  have e2 : insInner (ltOf M.cmpH) 0 2 #[a, b, c, x] = #[a, b, c, x] := by simp [insInner, M.ltOf_less, k2]
  rw [show 0 + 1 = 1 from rfl, e1, show 1 + 1 = 2 from rfl, e2]
  by_cases hc : M.less x.1 c.1 = true
  · by_cases hb : M.less x.1 b.1 = true
    · by_cases ha : M.less x.1 a.1 = true
      · simp [insInner, M.ltOf_less, swp, M.insH, ha, hb, hc]
      · simp [insInner, M.ltOf_less, swp, M.insH, ha, hb, hc]
    · have ha : ¬ M.less x.1 a.1 = true := fun h => hb (M.less_trans h h1)
      simp [insInner, M.ltOf_less, swp, M.insH, ha, hb, hc]
  · have hb : ¬ M.less x.1 b.1 = true := fun h => hc (M.less_trans h k1)
    have ha : ¬ M.less x.1 a.1 = true := fun h => hb (M.less_trans h h1)
    simp [insInner, M.ltOf_less, M.insH, ha, hb, hc]
theorem M.ins_all (H : List M.Hd) (x : M.Hd) (hr : M.rise H = true) (h1 : 1 ≤ H.length) (h3 : H.length ≤ 3) : insertionSort (ltOf M.cmpH) (H ++ [x]).toArray 0 (H ++ [x]).toArray.size = (M.insH x H).toArray := by
  match H, hr, h1, h3 with
  | [a], _, _, _ => exact M.ins1 a x
  | [a, b], hr, _, _ =>
    simp only [M.rise, M.riseF, Bool.and_true] at hr
    exact M.ins2 a b x hr
  | [a, b, c], hr, _, _ =>
    simp only [M.rise, M.riseF, Bool.and_true, Bool.and_eq_true] at hr
    exact M.ins3 a b c x hr.1 hr.2
theorem M.insH_len (x : M.Hd) (H : List M.Hd) : (M.insH x H).length = H.length + 1 := by
  induction H with
  | nil => rfl
  | cons h t ih =>
    unfold M.insH
    split
    · rfl
    · simp [ih]
theorem M.insH_mem (x : M.Hd) (H : List M.Hd) (y : M.Hd) : y ∈ M.insH x H ↔ y = x ∨ y ∈ H := by
  induction H with
  | nil => simp [M.insH]
  | cons h t ih =>
    unfold M.insH
    split
    · simp
    · simp only [List.mem_cons, ih]
      constructor
      · rintro (h | h | h) <;> simp [h]
      · rintro (h | h | h) <;> simp [h]
end Go.Proofs.YtcgpgflnihjpiafGreat

/- Plain facts on repos that have changed, with no program in sight. -/
namespace Go.Proofs.YtcgpgflnihjpiafGreat.M
open Go.RowKit

theorem alike_iff (s t : ByteArray) : alike s t = true ↔ s = t := by
  unfold alike
  rw [beq_iff_eq, ByteArray.toList_eq, ByteArray.toList_eq]
  constructor
  · intro h
    have : s.data = t.data := Array.ext' h
    cases s; cases t; simp_all
  · rintro rfl; rfl
theorem less_irr (s : ByteArray) : less s s = false := bless_irr _

/-! ### names -/
def nms (H : List Hd) : List ByteArray := H.map Prod.fst
theorem riseF_nms : ∀ (H H' : List Hd) (s : ByteArray), nms H = nms H' → riseF s H = riseF s H'
  | [], [], _, _ => rfl
  | [], _ :: _, _, h => by simp [nms] at h
  | _ :: _, [], _, h => by simp [nms] at h
  | x :: t, y :: u, s, h => by
    simp only [nms, List.map_cons, List.cons.injEq] at h
    simp only [riseF]
    rw [h.1, riseF_nms t u _ h.2]
theorem rise_nms : ∀ (H H' : List Hd), nms H = nms H' → rise H = rise H'
  | [], [], _ => rfl
  | [], _ :: _, h => by simp [nms] at h
  | _ :: _, [], h => by simp [nms] at h
  | x :: t, y :: u, h => by
    simp only [nms, List.map_cons, List.cons.injEq] at h
    simp only [rise]
    rw [h.1, riseF_nms t u _ h.2]
theorem named_nms (H H' : List Hd) (h : nms H = nms H') : named H = named H' := by
  have e : ∀ H : List Hd, named H = (nms H).all nam := fun H => by unfold named nms; rw [List.all_map]; rfl
  rw [e, e, h]
theorem riseF_all : ∀ (H : List Hd) (s : ByteArray), riseF s H = true → (∀ h ∈ H, less s h.1 = true) ∧ H.Pairwise (fun a b => less a.1 b.1 = true)
  | [], _, _ => ⟨fun _ h => by simp at h, List.Pairwise.nil⟩
  | x :: t, s, h => by
    simp only [riseF, Bool.and_eq_true] at h
    obtain ⟨h1, h2⟩ := riseF_all t x.1 h.2
    refine ⟨fun y hy => ?_, List.pairwise_cons.2 ⟨h1, h2⟩⟩
    rcases List.mem_cons.1 hy with rfl | hy
    · exact h.1
    · exact less_trans h.1 (h1 y hy)
theorem rise_all {H : List Hd} (h : rise H = true) : H.Pairwise (fun a b => less a.1 b.1 = true) := by
  cases H with
  | nil => exact List.Pairwise.nil
  | cons x t =>
    obtain ⟨h1, h2⟩ := riseF_all t x.1 h
    exact List.pairwise_cons.2 ⟨h1, h2⟩
theorem riseF_of : ∀ (H : List Hd) (s : ByteArray), (∀ h ∈ H, less s h.1 = true) → H.Pairwise (fun a b => less a.1 b.1 = true) → riseF s H = true
  | [], _, _, _ => rfl
  | x :: t, s, h1, h2 => by
    simp only [riseF, Bool.and_eq_true]
    exact ⟨h1 x (by simp), riseF_of t x.1 (List.pairwise_cons.1 h2).1 (List.pairwise_cons.1 h2).2⟩
theorem rise_of {H : List Hd} (h : H.Pairwise (fun a b => less a.1 b.1 = true)) : rise H = true := by
  cases H with
  | nil => rfl
  | cons x t => exact riseF_of t x.1 (List.pairwise_cons.1 h).1 (List.pairwise_cons.1 h).2
/-- Heads that rise have each name once. -/
theorem rise_once {H : List Hd} (h : H.Pairwise (fun a b => less a.1 b.1 = true)) : ∀ a ∈ H, ∀ b ∈ H, a.1 = b.1 → a = b := by
  induction H with
  | nil => intro a ha; simp at ha
  | cons x t ih =>
    obtain ⟨h1, h2⟩ := List.pairwise_cons.1 h
    intro a ha b hb e
    rcases List.mem_cons.1 ha with rfl | ha' <;> rcases List.mem_cons.1 hb with rfl | hb'
    · rfl
    · have := h1 b hb'; rw [e, less_irr] at this; simp at this
    · have := h1 a ha'; rw [e, less_irr] at this; simp at this
    · exact ih h2 a ha' b hb' e

theorem rchk_of {C : List Com} {H : List Hd} (h1 : dchk C = 0) (h2 : H.length ≤ 4) (h3 : named H = true) (h4 : inside C.length H = true) (h5 : rise H = true) : rchk C H = 0 := by
  unfold rchk
  rw [if_neg (by rw [h1]; simp), if_neg (by omega), if_neg (by rw [h3]; simp), if_neg (by rw [h4]; simp), if_neg (by rw [h5]; simp)]

theorem hd_mem {C : List Com} {H : List Hd} (hr : rchk C H = 0) {t : ByteArray} {y : Int} (hm : (t, y) ∈ H) : hchk C H t = 0 ∧ hat C H t = y := by
  have hp : 0 ≤ plc H t := (idxF_neg _ H 0).2 (List.any_eq_true.2 ⟨(t, y), hm, (alike_iff t t).2 rfl⟩)
  have hc : hchk C H t = 0 := by unfold hchk; rw [if_neg (by rw [hr]; simp), if_neg (by omega)]
  have hl := plc_lt H t
  have ha := idxF_at (fun h : Hd => alike h.1 t) H 0 hd0 hp
  rw [Nat.sub_zero] at ha
  have hk : (plc H t).toNat < H.length := by omega
  have hmem : H.getD (plc H t).toNat hd0 ∈ H := by simp [List.getD, hk]
  have e1 : (H.getD (plc H t).toNat hd0).1 = t := (alike_iff _ _).1 ha
  have e2 := rise_once (rise_all (rchk_zero hr).2.2.2.2) _ hmem _ hm e1
  refine ⟨hc, ?_⟩
  unfold hat
  rw [if_neg (by rw [hc]; simp), e2]
theorem hd_none {C : List Com} {H : List Hd} (hr : rchk C H = 0) {t : ByteArray} (hn : ∀ y, (t, y) ∉ H) : hchk C H t = 5 ∧ hat C H t = 0 := by
  have hp : plc H t < 0 := by
    by_cases h : 0 ≤ plc H t
    · obtain ⟨x, hx, hx2⟩ := List.any_eq_true.1 ((idxF_neg _ H 0).1 h)
      have e : x.1 = t := (alike_iff _ _).1 hx2
      exact absurd (show (t, x.2) ∈ H by rw [← e]; exact hx) (hn x.2)
    · omega
  have hc : hchk C H t = 5 := by unfold hchk; rw [if_neg (by rw [hr]; simp), if_pos hp]
  refine ⟨hc, ?_⟩
  unfold hat
  rw [if_pos (by rw [hc]; simp)]
theorem hd_in {C : List Com} {H : List Hd} {t : ByteArray} (h : hchk C H t = 0) : (t, hat C H t) ∈ H := by
  obtain ⟨hr, hp⟩ := hchk_zero h
  by_cases hn : ∀ y, (t, y) ∉ H
  · have := (hd_none hr hn).1; omega
  · simp only [Classical.not_forall, Classical.not_not] at hn
    obtain ⟨y, hy⟩ := hn
    rw [(hd_mem hr hy).2]; exact hy
theorem hd_same {C C' : List Com} {H H' : List Hd} (hr : rchk C H = 0) (hr' : rchk C' H' = 0) {t : ByteArray} (h : ∀ y, (t, y) ∈ H ↔ (t, y) ∈ H') : hchk C H t = hchk C' H' t ∧ hat C H t = hat C' H' t := by
  by_cases hn : ∀ y, (t, y) ∉ H
  · obtain ⟨a1, a2⟩ := hd_none hr hn
    obtain ⟨b1, b2⟩ := hd_none hr' (fun y hy => hn y ((h y).2 hy))
    exact ⟨a1.trans b1.symm, a2.trans b2.symm⟩
  · simp only [Classical.not_forall, Classical.not_not] at hn
    obtain ⟨y, hy⟩ := hn
    obtain ⟨a1, a2⟩ := hd_mem hr hy
    obtain ⟨b1, b2⟩ := hd_mem hr' ((h y).1 hy)
    exact ⟨a1.trans b1.symm, a2.trans b2.symm⟩

/-! ### a head that is moved -/
def setH (H : List Hd) (k : Nat) (x : Int) : List Hd := H.set k ((H.getD k hd0).1, x)
theorem nms_set (H : List Hd) (k : Nat) (x : Int) : nms (setH H k x) = nms H := by
  unfold nms setH
  refine List.ext_getElem (by simp) fun i h1 h2 => ?_
  simp only [List.getElem_map, List.getElem_set]
  split
  · rename_i e; subst e
    have : k < H.length := by simpa using h2
    simp [List.getD, this]
  · rfl
theorem set_mem {H : List Hd} {k : Nat} {x : Int} (hk : k < H.length) (h : H.Pairwise (fun a b => less a.1 b.1 = true)) (t : ByteArray) (y : Int) : (t, y) ∈ setH H k x ↔ (t = (H.getD k hd0).1 ∧ y = x) ∨ (t ≠ (H.getD k hd0).1 ∧ (t, y) ∈ H) := by
  have hm : H.getD k hd0 ∈ H := by simp [List.getD, hk]
  have ek : H.getD k hd0 = H[k] := by simp [List.getD, hk]
  unfold setH
  constructor
  · intro hmem
    obtain ⟨i, hi, e⟩ := List.getElem_of_mem hmem
    rw [List.getElem_set] at e
    split at e
    · left; exact ⟨(congrArg Prod.fst e).symm, (congrArg Prod.snd e).symm⟩
    · rename_i hne
      right
      have hi2 : i < H.length := by simpa using hi
      refine ⟨fun he => ?_, by rw [← e]; exact List.getElem_mem hi2⟩
      rcases Nat.lt_or_gt_of_ne hne with hlt | hlt
      · have := List.pairwise_iff_getElem.1 h k i hk hi2 hlt
        rw [e, ← ek, ← he, less_irr] at this; simp at this
      · have := List.pairwise_iff_getElem.1 h i k hi2 hk hlt
        rw [e, ← ek, ← he, less_irr] at this; simp at this
  · rintro (⟨rfl, rfl⟩ | ⟨h1, h2⟩)
    · exact List.mem_iff_getElem.2 ⟨k, by simpa using hk, by simp⟩
    · obtain ⟨i, hi, e⟩ := List.getElem_of_mem h2
      refine List.mem_iff_getElem.2 ⟨i, by simpa using hi, ?_⟩
      rw [List.getElem_set, if_neg, e]
      intro hki
      subst hki
      rw [← ek] at e
      exact h1 (by rw [e])
theorem inside_mono {n n' : Nat} (hn : n ≤ n') {H : List Hd} (h : inside n H = true) : inside n' H = true := by
  refine (inside_iff n' H).2 fun k hk => ?_
  have := (inside_iff n H).1 h k hk
  omega
theorem inside_mem {n : Nat} {H : List Hd} : inside n H = true ↔ ∀ h ∈ H, 0 ≤ h.2 ∧ h.2 < (n : Int) := by
  unfold inside; rw [List.all_eq_true]; simp
theorem named_mem {H : List Hd} : named H = true ↔ ∀ h ∈ H, nam h.1 = true := by
  unfold named; rw [List.all_eq_true]
theorem rchk_set {C C' : List Com} {H : List Hd} (hr : rchk C H = 0) (hd : dchk C' = 0) (hl : C.length ≤ C'.length) {k : Nat} {x : Int} (h0 : 0 ≤ x) (h1 : x < (C'.length : Int)) : rchk C' (setH H k x) = 0 := by
  obtain ⟨a1, a2, a3, a4, a5⟩ := rchk_zero hr
  have e := nms_set H k x
  refine rchk_of hd (by unfold setH; simpa using a2) (by rw [named_nms _ _ e]; exact a3) ?_ (by rw [rise_nms _ _ e]; exact a5)
  refine inside_mem.2 fun h hm => ?_
  have a4 := inside_mem.1 (inside_mono hl a4)
  unfold setH at hm
  rcases List.mem_or_eq_of_mem_set hm with hm | rfl
  · exact a4 h hm
  · exact ⟨h0, h1⟩
/-- The head that is moved, and the others. -/
theorem moved {C C' : List Com} {H : List Hd} {s : ByteArray} {x : Int} (hs : hchk C H s = 0) (hr' : rchk C' (setH H (plc H s).toNat x) = 0) :
    (hchk C' (setH H (plc H s).toNat x) s = 0 ∧ hat C' (setH H (plc H s).toNat x) s = x) ∧ ∀ t, t ≠ s → hchk C' (setH H (plc H s).toNat x) t = hchk C H t ∧ hat C' (setH H (plc H s).toNat x) t = hat C H t := by
  obtain ⟨hr, hp⟩ := hchk_zero hs
  have hl := plc_lt H s
  have hk : (plc H s).toNat < H.length := by omega
  have ha := idxF_at (fun h : Hd => alike h.1 s) H 0 hd0 hp
  rw [Nat.sub_zero] at ha
  have e1 : (H.getD (plc H s).toNat hd0).1 = s := (alike_iff _ _).1 ha
  have S := fun t y => set_mem (x := x) hk (rise_all (rchk_zero hr).2.2.2.2) t y
  rw [e1] at S
  refine ⟨hd_mem hr' ((S s x).2 (Or.inl ⟨rfl, rfl⟩)), fun t ht => hd_same hr' hr fun y => ?_⟩
  rw [S t y]
  simp [ht]

/-! ### a commit more -/
theorem dchkF_snoc (c : Com) (hc : chk c.1 = 0) : ∀ (L : List Com) (n : Nat), dchkF n L = 0 → pr (n + L.length) c.2 = true → dchkF n (L ++ [c]) = 0
  | [], n, _, hp => by
    simp only [List.nil_append, dchkF]
    rw [if_neg (by rw [hc]; simp), if_pos (by simpa using hp)]
  | d :: t, n, h, hp => by
    rw [List.cons_append, dchkF]
    rw [dchkF] at h
    split at h
    · rename_i h1; exact absurd h h1
    · rename_i h1
      split at h
      · rename_i h2
        rw [if_neg h1, if_pos h2]
        exact dchkF_snoc c hc t (n + 1) h (by rw [show n + 1 + t.length = n + (d :: t).length by simp; omega]; exact hp)
      · omega
theorem dchk_snoc {L : List Com} {c : Com} (h : dchk L = 0) (hl : L.length < 14) (hc : chk c.1 = 0) (hp : pr L.length c.2 = true) : dchk (L ++ [c]) = 0 := by
  rw [dchk_few _ (by simp; omega)]
  rw [dchk_few _ (by omega)] at h
  exact dchkF_snoc c hc L 0 h (by simpa using hp)
theorem pr_one {n : Nat} {x : Int} (h0 : 0 ≤ x) (h1 : x < (n : Int)) : pr n [x] = true := by
  unfold pr ris ris
  simp; omega
theorem pr_two {n : Nat} {x y : Int} (h0 : 0 ≤ x) (h1 : x < y) (h2 : y < (n : Int)) : pr n [x, y] = true := by
  unfold pr ris ris ris
  simp; omega
theorem mrows_ok {b l m : List (Int × Int)} (h : mergeE b l m = 0) : chk (mrows b l m) = 0 := by
  unfold mergeE at h
  split at h
  · rename_i h1; exact absurd h h1
  · rename_i h1
    split at h
    · rename_i h2; exact absurd h h2
    · rename_i h2
      split at h
      · rename_i h3; exact absurd h h3
      · rename_i h3
        split at h
        · omega
        · rename_i h4
          refine (chk_zero _).2 ⟨by omega, ofTab_ok _ fun i _ => ?_⟩
          have r1 := find_range (key := (i : Int)) ((chk_zero b).1 (by simpa using h1)).2
          have r2 := find_range (key := (i : Int)) ((chk_zero l).1 (by simpa using h2)).2
          have r3 := find_range (key := (i : Int)) ((chk_zero m).1 (by simpa using h3)).2
          unfold mtab mval
          split
          · exact r2
          · split
            · exact r3
            · exact r2
theorem patchE_parts {l : List (Int × Int)} {d : List Chg} (h : patchE l d = 0) : chk l = 0 ∧ fine d = true ∧ clashF l d = false ∧ (ofTab (tab (fun k => find k l) d)).length ≤ 40 := by
  unfold patchE at h
  split at h
  · rename_i h1; exact absurd h h1
  · rename_i h1
    split at h
    · omega
    · rename_i h2
      split at h
      · omega
      · rename_i h3
        split at h
        · omega
        · rename_i h4
          exact ⟨by simpa using h1, by simpa using h2, by simpa using h3, by omega⟩
theorem patchV_ok {l : List (Int × Int)} {d : List Chg} (h : patchE l d = 0) : chk (patchV l d) = 0 := by
  obtain ⟨h1, h2, h3, h4⟩ := patchE_parts h
  unfold patchV
  rw [if_pos h]
  refine (chk_zero _).2 ⟨h4, ofTab_ok _ fun i hi => ?_⟩
  have F := (fine_iff d).1 h2
  rcases tab_cases (fun k => find k l) d F.2 (i : Int) with ⟨c, hc, _, e⟩ | ⟨_, e⟩
  · rw [e]; have := F.1 c hc; omega
  · rw [e]; exact find_range ((chk_zero l).1 h1).2

/-! ### heads that are sorted in, and heads that are taken out -/
theorem insH_rise {x : Hd} {H : List Hd} (h : H.Pairwise (fun a b => less a.1 b.1 = true)) (hn : ∀ y ∈ H, y.1 ≠ x.1) : (insH x H).Pairwise (fun a b => less a.1 b.1 = true) := by
  induction H with
  | nil => simp [insH]
  | cons y t ih =>
    obtain ⟨h1, h2⟩ := List.pairwise_cons.1 h
    unfold insH
    split
    · rename_i hl
      refine List.pairwise_cons.2 ⟨fun z hz => ?_, h⟩
      rcases List.mem_cons.1 hz with rfl | hz
      · exact hl
      · exact less_trans hl (h1 z hz)
    · rename_i hl
      refine List.pairwise_cons.2 ⟨fun z hz => ?_, ih h2 (fun z hz => hn z (by simp [hz]))⟩
      rcases (insH_mem x t z).1 hz with hzx | hz
      · rw [hzx]
        have hl : less x.1 y.1 = false := by simpa using hl
        have := leq_not x.1 y.1
        cases hyx : less y.1 x.1 with
        | true => rfl
        | false =>
          rw [hyx] at this
          have e2 : (Op.bytesLess x.1.toList y.1.toList) = false := hl
          rw [e2] at this
          simp only [Bool.false_or, Bool.not_false] at this
          exact absurd ((alike_iff x.1 y.1).1 this).symm (hn y (by simp))
      · exact h1 z hz
end Go.Proofs.YtcgpgflnihjpiafGreat.M

/- repo.isName, by the library's own text of strings.ContainsFunc; the reference's IsName. -/
namespace Go.Proofs.YtcgpgflnihjpiafGreat
open Go.RowKit Go.PlainAid Go.Shelf

theorem notLetter_any (r : Int) (w : World) : Calls Tryz.prog 86 #[.int .i32 r] w fun e w' => e = .returned (.bool (decide (r < 97 ∨ 122 < r))) ∧ w' = w := by
  go_enter Tryz.func86, Tryz.ntmps86
  go_wp2
  all_goals (go_ret; exact ⟨ret_bool (by simp; try omega), rfl⟩)

set_option maxHeartbeats 2000000 in
theorem indexFunc_any (s : ByteArray) (w : World) :
    Calls Tryz.prog 142 #[.string s, .func (.func 86) #[] #[], .bool true] w fun e w' => ∃ r : Int, e = .returned (.int .i64 r) ∧ Hid ((M.lets s 0 = true → r = -1) ∧ (M.lets s 0 = false → 0 ≤ r)) ∧ Below w.heap.size w w' := by
  have eg : ∀ args w, (callFunc 86 args).run Tryz.prog w = .ok (.enter 86 args) w := enters_of Tryz.func86 (by kernel_rfl) rfl
  go_enter Tryz.func142, Tryz.ntmps142
  go_wp2
  go_loopg [] s.size (fun gf wx => ∃ pos : Nat, wx.heap[w.heap.size]? = some (.stringIter s pos) ∧ Below w.heap.size w wx ∧ pos + gf = s.size ∧ Aside (M.lets s pos = M.lets s 0))
  case atStart => exact ⟨0, World.iter_heap w s 0, (Below.refl _ w).alloc (Nat.le_refl _) _, by omega, rfl⟩
  case round =>
    obtain ⟨pos, hit, hbw, hfu, A⟩ := hrel
    by_cases hps : pos < s.size
    · have hnx : ∀ ty, (Instr.next (.pointer (some ⟨w.heap.size, 0, none⟩)) true ty).run Tryz.prog wr = _ := fun ty => Lib.run_next_any_at wr w.heap.size s pos ty hit hps
      obtain ⟨R, hR⟩ : ∃ R, (Utf8.decode s pos).1 = R := ⟨_, rfl⟩
      obtain ⟨K, hK⟩ : ∃ K, (Utf8.decode s pos).2 = K := ⟨_, rfl⟩
      rw [hR, hK] at hnx
      have hit2 := Lib.iterAt_heap wr w.heap.size s pos (pos + K) hit
      have hbw2 := Lib.below_iterAt hbw (k := w.heap.size) (Nat.le_refl _) s (pos + K)
      obtain ⟨W, hWd⟩ : ∃ W, wr.iterAt w.heap.size s (pos + K) = W := ⟨_, rfl⟩
      rw [hWd] at hnx hit2 hbw2
      have cS := notLetter_any (R : Int) W
      by_cases hl : 97 ≤ bt s pos ∧ bt s pos ≤ 122
      · have hd := M.bt_decode s pos hps (by omega)
        have e1 : (R : Int) = bt s pos := by rw [← hR, hd]; simp; omega
        have e2 : K = 1 := by rw [← hK, hd]
        have e3 : decide ((R : Int) < 97 ∨ 122 < (R : Int)) = false := decide_eq_false (by omega)
        rw [e3] at cS
        have A2 : Aside (M.lets s (pos + K) = M.lets s 0) := by unfold Aside; rw [e2, ← M.lets_good s pos hl.1 hl.2]; exact A.out
        have CS : Hid (Calls Tryz.prog 86 #[.int .i32 (R : Int)] W fun e w' => e = .returned (.bool false) ∧ w' = W) := cS
        have HK1 : Hid (K = 1) := e2
        clear cS hd e1 e2 e3 hR hK hWd hl A
        go_wp2_with fail
        refine CS.out.mono ?_
        rintro e w' ⟨rfl, hw'⟩
        subst hw'
        go_wp2
        go_roundg (gk - 1)
        case measure => omega
        case rel => exact ⟨pos + K, hit2, hbw2, by have := HK1.out; omega, A2⟩
      · have e3 : decide ((R : Int) < 97 ∨ 122 < (R : Int)) = true := by
          rw [decide_eq_true]
          by_cases h8 : bt s pos < 128
          · have hd := M.bt_decode s pos hps h8
            have h0 := bt_nonneg s pos
            have e1 : (R : Int) = bt s pos := by rw [← hR, hd]; simp; omega
            omega
          · have := M.far_decode s pos hps (by omega)
            rw [hR] at this; omega
        rw [e3] at cS
        have A2 : Aside (M.lets s 0 = false) := by unfold Aside; rw [← A.out]; exact M.lets_bad s pos hps (by omega)
        have CS : Hid (Calls Tryz.prog 86 #[.int .i32 (R : Int)] W fun e w' => e = .returned (.bool true) ∧ w' = W) := cS
        clear cS e3 hR hK hWd hl A
        go_wp2_with fail
        refine CS.out.mono ?_
        rintro e w' ⟨rfl, hw'⟩
        subst hw'
        go_wp2
        go_ret
        exact ⟨(pos : Int), rfl, ⟨fun h => by rw [A2.out] at h; simp at h, fun _ => by omega⟩, hbw2⟩
    · have hnx : ∀ ty, (Instr.next (.pointer (some ⟨w.heap.size, 0, none⟩)) true ty).run Tryz.prog wr = _ := fun ty => Lib.run_next_end_at wr w.heap.size s pos ty hit hps
      have A2 : Aside (M.lets s 0 = true) := by unfold Aside; rw [← A.out]; exact M.lets_end s pos (by omega)
      clear A
      go_wp2
      go_ret
      exact ⟨-1, rfl, ⟨fun _ => rfl, fun h => by rw [A2.out] at h; simp at h⟩, hbw⟩

theorem scontains_any (s : ByteArray) (w : World) :
    Calls Tryz.prog 85 #[.string s, .func (.func 86) #[] #[]] w fun e w' => e = .returned (.bool (!M.lets s 0)) ∧ Below w.heap.size w w' := by
  have H1 : Hid (Calls Tryz.prog 118 #[.string s, .func (.func 86) #[] #[]] w fun e w' => ∃ r : Int, e = .returned (.int .i64 r) ∧ Hid ((M.lets s 0 = true → r = -1) ∧ (M.lets s 0 = false → 0 ≤ r)) ∧ Below w.heap.size w w') := by
    unfold Hid
    have H2 : Hid (Calls Tryz.prog 142 #[.string s, .func (.func 86) #[] #[], .bool true] w fun e w' => ∃ r : Int, e = .returned (.int .i64 r) ∧ Hid ((M.lets s 0 = true → r = -1) ∧ (M.lets s 0 = false → 0 ≤ r)) ∧ Below w.heap.size w w') := indexFunc_any s w
    go_enter Tryz.func118, Tryz.ntmps118
    go_wp2_with fail
    refine H2.out.mono ?_
    rintro e w' ⟨r, rfl, hr, hb⟩
    go_wp2
    go_ret
    exact ⟨r, rfl, hr, hb⟩
  go_enter Tryz.func85, Tryz.ntmps85
  go_wp2_with fail
  refine H1.out.mono ?_
  rintro e w' ⟨r, rfl, hr, hb⟩
  go_wp2
  go_ret
  refine ⟨ret_bool ?_, hb⟩
  cases h : M.lets s 0
  · have := hr.out.2 h; simp; exact this
  · have := hr.out.1 h; subst this; simp

theorem isName_any (s : ByteArray) (w : World) (hm : s.size ≤ 9223372036854775807) : Calls Tryz.prog 35 #[.string s] w fun e w' => e = .returned (.bool (M.nam s)) ∧ Below w.heap.size w w' := by
  have hsz : s.toList.length = s.size := by rw [ByteArray.toList_eq]; rfl
  by_cases h0 : s.size = 0
  · rw [M.nam_none s h0]
    have e0 : s.toList = [] := List.eq_nil_of_length_eq_zero (by omega)
    clear h0 hsz
    go_enter Tryz.func35, Tryz.ntmps35
    go_wp2
    go_ret
    exact ⟨rfl, Below.refl _ _⟩
  · have e0 : s.toList.isEmpty = false := by
      rw [List.isEmpty_eq_false_iff]
      intro h
      rw [h] at hsz; simp at hsz; omega
    have e1 : ¬ s.toList = [] := by intro h; rw [h] at e0; simp at e0
    clear hsz
    by_cases h8 : 8 < s.size
    · rw [M.nam_long s h8]
      have h8' : decide (8 < (s.size : Int)) = true := by simp; omega
      go_enter Tryz.func35, Tryz.ntmps35
      go_wp2
      go_ret
      exact ⟨rfl, Below.refl _ _⟩
    · rw [M.nam_few s (by omega) (by omega)]
      have h8' : decide (8 < (s.size : Int)) = false := by simp; omega
      have H1 : Hid (Calls Tryz.prog 85 #[.string s, .func (.func 86) #[] #[]] w fun e w' => e = .returned (.bool (!M.lets s 0)) ∧ Below w.heap.size w w') := scontains_any s w
      go_enter Tryz.func35, Tryz.ntmps35
      go_wp2_with fail
      refine H1.out.mono ?_
      rintro e w' ⟨rfl, hb⟩
      go_wp2
      go_ret
      exact ⟨ret_bool (by simp), hb⟩
end Go.Proofs.YtcgpgflnihjpiafGreat

/- repo.Check, repo.Head. -/
namespace Go.Proofs.YtcgpgflnihjpiafGreat
open Go.RowKit Go.Shelf

theorem check1_any (x : M.Hd) (w : World) (hm : x.1.size ≤ 9223372036854775807) :
    Calls Tryz.prog 34 #[.agg #[.string x.1, .int .i64 x.2]] w fun e w' => e = .returned (.bool (!M.nam x.1)) ∧ Below w.heap.size w w' := by
  obtain ⟨W, hW⟩ : ∃ W, W = w.alloc (.cells #[.string x.1, .int .i64 x.2] 71) := ⟨_, rfl⟩
  have hb : Below w.heap.size w W := by rw [hW]; exact (Below.refl _ _).alloc (Nat.le_refl _) _
  have HN : Hid (Calls Tryz.prog 35 #[.string x.1] W fun e w' => e = .returned (.bool (M.nam x.1)) ∧ Below W.heap.size W w') := isName_any x.1 W hm
  have HW : Hid (W = w.alloc (.cells #[.string x.1, .int .i64 x.2] 71)) := hW
  clear hW
  go_enter Tryz.func34, Tryz.ntmps34
  go_wp2_with fail
  rw [← HW.out]
  refine HN.out.mono ?_
  rintro e w' ⟨rfl, hb1⟩
  go_wp2
  go_ret
  exact ⟨rfl, dbelow2 hb hb1⟩

theorem check2_any (x : M.Hd) (p n cap : Nat) (a : Option Addr) (w : World) (hp : w.cell? ⟨p, 0, none⟩ = some (.slice a n cap)) (hpl : p < w.heap.size) :
    Calls Tryz.prog 36 #[.agg #[.string x.1, .int .i64 x.2], .pointer (some ⟨p, 0, none⟩)] w fun e w' => e = .returned (.bool (!decide (0 ≤ x.2 ∧ x.2 < (n : Int)))) ∧ Below w.heap.size w w' := by
  have hb : Below w.heap.size w (w.alloc (.cells #[.string x.1, .int .i64 x.2] 71)) := (Below.refl _ _).alloc (Nat.le_refl _) _
  have hp1 : (w.alloc (.cells #[.string x.1, .int .i64 x.2] 71)).cell? ⟨p, 0, none⟩ = some (.slice a n cap) := (hb.cell (p := ⟨p, 0, none⟩) hpl).trans hp
  go_enter Tryz.func36, Tryz.ntmps36
  go_wp2
  all_goals (go_ret; exact ⟨ret_bool (by rw [Bool.eq_iff_iff]; simp; try omega), hb⟩)

theorem rise_none (a : Option Addr) (cap : Nat) (w : World) :
    Calls Tryz.prog 37 #[.slice a 0 cap] w fun e w' => e = .returned (.bool true) ∧ w' = w := by
  go_enter Tryz.func37, Tryz.ntmps37
  go_wp2
  refine wp_loop_rounds 1 ?_
  rw [rounds_succ]
  go_wp2
  go_ret
  exact ⟨rfl, rfl⟩
set_option maxHeartbeats 2000000 in
theorem rise_some (b off n cap : Nat) (H : List M.Hd) (w : World) (hm : n ≤ 9223372036854775807) (hl : H.length = n) (hB : b < w.heap.size)
    (hc : ∀ i, i < n → w.cell? ⟨b, off + i * 2, none⟩ = some (.string (H.getD i M.hd0).1) ∧ w.cell? ⟨b, off + i * 2 + 1, none⟩ = some (.int .i64 (H.getD i M.hd0).2) ∧ (H.getD i M.hd0).1.size ≤ 9223372036854775807) :
    Calls Tryz.prog 37 #[.slice (some ⟨b, off, none⟩) n cap] w fun e w' => e = .returned (.bool (M.riseF (ByteArray.mk #[]) H)) ∧ Below w.heap.size w w' := by
  have HC : Aside (∀ i, i < n → w.cell? ⟨b, off + i * 2, none⟩ = some (.string (H.getD i M.hd0).1) ∧ w.cell? ⟨b, off + i * 2 + 1, none⟩ = some (.int .i64 (H.getD i M.hd0).2) ∧ (H.getD i M.hd0).1.size ≤ 9223372036854775807) := hc
  have HL : Aside (H.length = n) := hl
  clear hc hl
  go_enter Tryz.func37, Tryz.ntmps37
  go_wp2
  go_loopg [3, 8] n (fun g v i wr => ∃ (k : Nat) (s : ByteArray), k + g = n ∧ i = .int .i64 k ∧ v = .string s ∧ Below w.heap.size w wr ∧ Aside (M.riseF s (H.drop k) = M.riseF (ByteArray.mk #[]) H))
  case atStart => exact ⟨0, _, by omega, rfl, rfl, Below.refl _ _, by simp [Aside]⟩
  case round =>
    obtain ⟨k, s, hk, rfl, rfl, hbel, A⟩ := hrel
    have hsz := hbel.size
    by_cases hlt : k < n
    · obtain ⟨x, hx⟩ : ∃ x, H.getD k M.hd0 = x := ⟨_, rfl⟩
      have c0 : wr.cell? ⟨b, off + k * 2, none⟩ = some (.string x.1) := by rw [hbel.cell (p := ⟨b, off + k * 2, none⟩) hB, (HC.out k hlt).1, hx]
      have c1 : wr.cell? ⟨b, off + k * 2 + 1, none⟩ = some (.int .i64 x.2) := by rw [hbel.cell (p := ⟨b, off + k * 2 + 1, none⟩) hB, (HC.out k hlt).2.1, hx]
      have hA := M.riseF_at s H k (by rw [HL.out]; exact hlt) x hx
      rw [A.out] at hA
      have HA : Aside (M.riseF (ByteArray.mk #[]) H = (M.less s x.1 && M.riseF x.1 (H.drop (k + 1)))) := hA
      have hb1 := hbel.alloc hsz (.cells #[.string x.1, .int .i64 x.2] 71)
      have hle := M.leq_not x.1 s
      obtain ⟨t, ht⟩ : ∃ t, M.less s x.1 = t := ⟨_, rfl⟩
      rw [ht] at hle
      have HT : Aside (M.less s x.1 = t) := ht
      clear hx hA A ht
      have hki : (k : Int) < (n : Int) := by omega
      cases t with
      | true =>
        go_wp2
        go_roundg (gk - 1)
        case measure => omega
        case rel => exact ⟨k + 1, x.1, by omega, by go_num, rfl, hb1, by unfold Aside; rw [HA.out, HT.out]; rfl⟩
      | false =>
        go_wp2
        go_ret
        exact ⟨ret_bool (by rw [HA.out, HT.out]; rfl), hb1⟩
    · go_wp2
      go_ret
      exact ⟨ret_bool (by rw [← A.out]; exact (M.riseF_end s H k (by rw [HL.out]; omega)).symm), hbel⟩
theorem rise_any (a : Option Addr) (n cap : Nat) (H : List M.Hd) (w : World) (h : Hs w a n H) (hm : n ≤ 9223372036854775807) :
    Calls Tryz.prog 37 #[.slice a n cap] w fun e w' => e = .returned (.bool (M.riseF (ByteArray.mk #[]) H)) ∧ Below w.heap.size w w' := by
  rcases h.cases with ⟨rfl, rfl⟩ | ⟨b, off, rfl, hn, hl, hB, hc⟩
  · refine (rise_none a cap w).mono ?_
    rintro e w' ⟨rfl, rfl⟩
    exact ⟨rfl, Below.refl _ _⟩
  · exact rise_some b off n cap H w hm hl hB hc

set_option maxHeartbeats 4000000 in
theorem rcheck_any (a : Option Addr) (n cap : Nat) (C : List M.Com) (a2 : Option Addr) (n2 cap2 : Nat) (H : List M.Hd) (w : World) (hC : Cm w a n C) (hn : n ≤ 9223372036854775807) (hH : Hs w a2 n2 H) (hn2 : n2 ≤ 9223372036854775807) :
    Calls Tryz.prog 11 #[.agg #[.slice a n cap, .slice a2 n2 cap2]] w fun e w' => e = .returned (.int .i64 (M.rchk C H)) ∧ Below w.heap.size w w' := by
  obtain ⟨p, hp⟩ : ∃ p, p = w.heap.size := ⟨_, rfl⟩
  obtain ⟨W, hW⟩ : ∃ W, W = w.alloc (.cells #[.slice a n cap, .slice a2 n2 cap2] 25) := ⟨_, rfl⟩
  have hb : Below w.heap.size w W := by rw [hW]; exact (Below.refl _ _).alloc (Nat.le_refl _) _
  have q0 : W.cell? ⟨p, 0, none⟩ = some (.slice a n cap) := by rw [hW, hp]; simp [go_sem]
  have q1 : W.cell? ⟨p, 1, none⟩ = some (.slice a2 n2 cap2) := by rw [hW, hp]; simp [go_sem]
  have hpW : p < W.heap.size := by rw [hW, hp]; simp
  have HD := dcheck_any a n cap C W (hC.below hb (Nat.le_refl _)) hn
  have HHs : Aside (Hs W a2 n2 H) := hH.below hb (Nat.le_refl _)
  have hCl : C.length = n := hC.1
  have hHl : H.length = n2 := hH.1
  have HCl : Aside (C.length = n) := hCl
  have HHl : Aside (H.length = n2) := hHl
  obtain ⟨c, hc⟩ : ∃ c, c = M.dchk C := ⟨_, rfl⟩
  rw [← hc] at HD
  have HCc : Aside (c = M.dchk C) := hc
  have HDD : Hid (Calls Tryz.prog 32 #[.slice a n cap] W fun e w' => e = .returned (.int .i64 c) ∧ Below W.heap.size W w') := HD
  have HW : Hid (W = w.alloc (.cells #[.slice a n cap, .slice a2 n2 cap2] 25)) := hW
  have HP : Aside (p = w.heap.size) := hp
  clear hW HD hc hCl hHl hC hH hp
  have after : ∀ w1, Below W.heap.size W w1 → w1.cell? ⟨p, 0, none⟩ = some (.slice a n cap) ∧ w1.cell? ⟨p, 1, none⟩ = some (.slice a2 n2 cap2) ∧ Hs w1 a2 n2 H := fun w1 h => ⟨(h.cell (p := ⟨p, 0, none⟩) hpW).trans q0, (h.cell (p := ⟨p, 1, none⟩) hpW).trans q1, HHs.out.below h (Nat.le_refl _)⟩
  have HAf : Aside (∀ w1, Below W.heap.size W w1 → w1.cell? ⟨p, 0, none⟩ = some (.slice a n cap) ∧ w1.cell? ⟨p, 1, none⟩ = some (.slice a2 n2 cap2) ∧ Hs w1 a2 n2 H) := after
  clear after q0 q1
  go_enter Tryz.func11, Tryz.ntmps11
  go_wp2_with fail
  rw [← HW.out, ← HP.out]
  refine HDD.out.mono ?_
  rintro e w1 ⟨rfl, hb1⟩
  obtain ⟨d0, d1, hs1⟩ := HAf.out w1 hb1
  by_cases hz : c = 0
  · have hne : (c != 0) = false := by simp [hz]
    have HZ : Aside (M.dchk C = 0) := by unfold Aside; rw [← HCc.out]; exact hz
    clear hz
    by_cases h4 : 4 < n2
    · have E : Aside (M.rchk C H = 2) := by unfold Aside M.rchk; rw [if_neg (by rw [HZ.out]; simp), if_pos (by rw [HHl.out]; exact h4)]
      have h4' : decide (4 < (n2 : Int)) = true := by simp; omega
      go_wp2
      go_ret
      exact ⟨ret_int E.out.symm, hb.trans (hb1.mono hb.size)⟩
    · have h4' : decide (4 < (n2 : Int)) = false := by simp; omega
      have E1 : Aside (M.rchk C H = if M.named H = false then 4 else if M.inside C.length H = false then 1 else if M.rise H = false then 1 else 0) := by unfold Aside M.rchk; rw [if_neg (by rw [HZ.out]; simp), if_neg (by rw [HHl.out]; exact h4)]
      have K1 := hcontains_any 34 [] (enters_of Tryz.func34 (by kernel_rfl) rfl) (fun h => !M.nam h.1) a2 n2 cap2 H w1 hs1 hn2 (fun W' x hx hbx => check1_any x W' (hs1.small x hx))
      rw [M.named_any] at K1
      obtain ⟨t, ht⟩ : ∃ t, M.named H = t := ⟨_, rfl⟩
      rw [ht] at K1
      have HT : Aside (M.named H = t) := ht
      have KK1 : Hid (Calls Tryz.prog 33 #[.slice a2 n2 cap2, .func (.func 34) #[] #[]] w1 fun e w' => e = .returned (.bool (!t)) ∧ Below w1.heap.size w1 w') := K1
      clear K1 ht hs1
      go_wp2_with fail
      refine KK1.out.mono ?_
      rintro e w2 ⟨rfl, hb2⟩
      have b2 := dbelow2 hb1 hb2
      obtain ⟨d0', d1', hs2⟩ := HAf.out w2 b2
      have hp2 : p < w2.heap.size := Nat.lt_of_lt_of_le hpW b2.size
      clear d0 d1 hb1 hb2
      cases t with
      | false =>
        go_wp2
        go_ret
        exact ⟨ret_int (by rw [E1.out, HT.out]; rfl), hb.trans (b2.mono hb.size)⟩
      | true =>
        have K2 := hcontains_any 36 [.pointer (some ⟨p, 0, none⟩)] (enters_of Tryz.func36 (by kernel_rfl) rfl) (fun h => !decide (0 ≤ h.2 ∧ h.2 < (n : Int))) a2 n2 cap2 H w2 hs2 hn2 (fun W' x hx hbx => check2_any x p n cap a W' ((hbx.cell (p := ⟨p, 0, none⟩) hp2).trans d0') (Nat.lt_of_lt_of_le hp2 hbx.size))
        rw [M.inside_any] at K2
        obtain ⟨u, hu⟩ : ∃ u, M.inside n H = u := ⟨_, rfl⟩
        rw [hu] at K2
        have HU : Aside (M.inside C.length H = u) := by unfold Aside; rw [HCl.out]; exact hu
        have KK2 : Hid (Calls Tryz.prog 33 #[.slice a2 n2 cap2, .func (.func 36) #[] #[.pointer (some ⟨p, 0, none⟩)]] w2 fun e w' => e = .returned (.bool (!u)) ∧ Below w2.heap.size w2 w') := K2
        clear K2 hu hs2
        go_wp2_with fail
        refine KK2.out.mono ?_
        rintro e w3 ⟨rfl, hb3⟩
        have b3 := dbelow2 b2 hb3
        obtain ⟨e0, e1, hs3⟩ := HAf.out w3 b3
        clear d0' d1' hb3 b2
        cases u with
        | false =>
          go_wp2
          go_ret
          exact ⟨ret_int (by rw [E1.out, HT.out, HU.out]; rfl), hb.trans (b3.mono hb.size)⟩
        | true =>
          have K3 := rise_any a2 n2 cap2 H w3 hs3 hn2
          rw [M.riseF_none H HT.out] at K3
          obtain ⟨v, hv⟩ : ∃ v, M.rise H = v := ⟨_, rfl⟩
          rw [hv] at K3
          have HV : Aside (M.rise H = v) := hv
          have KK3 : Hid (Calls Tryz.prog 37 #[.slice a2 n2 cap2] w3 fun e w' => e = .returned (.bool v) ∧ Below w3.heap.size w3 w') := K3
          clear K3 hv hs3
          go_wp2_with fail
          refine KK3.out.mono ?_
          rintro e w4 ⟨rfl, hb4⟩
          have b4 := dbelow2 b3 hb4
          cases v with
          | false =>
            go_wp2
            go_ret
            exact ⟨ret_int (by rw [E1.out, HT.out, HU.out, HV.out]; rfl), hb.trans (b4.mono hb.size)⟩
          | true =>
            go_wp2
            go_ret
            exact ⟨ret_int (by rw [E1.out, HT.out, HU.out, HV.out]; rfl), hb.trans (b4.mono hb.size)⟩
  · have hne : (c != 0) = true := by simp [hz]
    have E : Aside (M.rchk C H = c) := by unfold Aside M.rchk; rw [if_pos (by rw [← HCc.out]; exact hz)]; exact HCc.out.symm
    clear hz
    go_wp2
    go_ret
    exact ⟨ret_int E.out.symm, hb.trans (hb1.mono hb.size)⟩
end Go.Proofs.YtcgpgflnihjpiafGreat

/- A repo in its box. -/
namespace Go.Proofs.YtcgpgflnihjpiafGreat
open Go.RowKit

theorem ret_two' {k : IntKind} {v : Value} {b b' : Int} (h : b = b') : Ending.returned (.tuple #[v, .int k b]) = .returned (.tuple #[v, .int k b']) := by rw [h]
theorem ret_pair {k k' : IntKind} {a a' b b' : Int} (h : a = a') (h' : b = b') : Ending.returned (.tuple #[.int k a, .int k' b]) = .returned (.tuple #[.int k a', .int k' b']) := by rw [h, h']
/-- What a call that is handed a repo has of it: its box, its commits, its heads. -/
structure InBox (w : World) (p : Nat) (a : Option Addr) (n cap : Nat) (C : List M.Com) (a2 : Option Addr) (n2 cap2 : Nat) (H : List M.Hd) : Prop where
  c0 : w.cell? ⟨p, 0, none⟩ = some (.slice a n cap)
  c1 : w.cell? ⟨p, 1, none⟩ = some (.slice a2 n2 cap2)
  lt : p < w.heap.size
  cm : Cm w a n C
  hs : Hs w a2 n2 H
theorem InBox.below {w w' : World} {p : Nat} {a : Option Addr} {n cap : Nat} {C : List M.Com} {a2 : Option Addr} {n2 cap2 : Nat} {H : List M.Hd} (h : InBox w p a n cap C a2 n2 cap2 H) (hb : Below w.heap.size w w') : InBox w' p a n cap C a2 n2 cap2 H :=
  ⟨(hb.cell (p := ⟨p, 0, none⟩) h.lt).trans h.c0, (hb.cell (p := ⟨p, 1, none⟩) h.lt).trans h.c1, Nat.lt_of_lt_of_le h.lt hb.size, h.cm.below hb (Nat.le_refl _), h.hs.below hb (Nat.le_refl _)⟩
theorem InBox.new (w : World) (a : Option Addr) (n cap : Nat) (C : List M.Com) (a2 : Option Addr) (n2 cap2 : Nat) (H : List M.Hd) (hC : Cm w a n C) (hH : Hs w a2 n2 H) : InBox (w.alloc (.cells #[.slice a n cap, .slice a2 n2 cap2] 25)) w.heap.size a n cap C a2 n2 cap2 H := by
  have hb : Below w.heap.size w (w.alloc (.cells #[.slice a n cap, .slice a2 n2 cap2] 25)) := (Below.refl _ _).alloc (Nat.le_refl _) _
  exact ⟨by simp [go_sem], by simp [go_sem], by simp, hC.below hb (Nat.le_refl _), hH.below hb (Nat.le_refl _)⟩
theorem M.hat_zero {C : List M.Com} {H : List M.Hd} {s : ByteArray} (h : M.hchk C H s ≠ 0) : M.hat C H s = 0 := by unfold M.hat; rw [if_pos h]
end Go.Proofs.YtcgpgflnihjpiafGreat

/- repo.Head. -/
namespace Go.Proofs.YtcgpgflnihjpiafGreat
open Go.RowKit Go.Shelf

theorem head1_any (x : M.Hd) (q : Nat) (s : ByteArray) (w : World) (hq : w.cell? ⟨q, 0, none⟩ = some (.string s)) (hql : q < w.heap.size) :
    Calls Tryz.prog 39 #[.agg #[.string x.1, .int .i64 x.2], .pointer (some ⟨q, 0, none⟩)] w fun e w' => e = .returned (.bool (M.alike x.1 s)) ∧ Below w.heap.size w w' := by
  have hb : Below w.heap.size w (w.alloc (.cells #[.string x.1, .int .i64 x.2] 71)) := (Below.refl _ _).alloc (Nat.le_refl _) _
  have hq1 : (w.alloc (.cells #[.string x.1, .int .i64 x.2] 71)).cell? ⟨q, 0, none⟩ = some (.string s) := (hb.cell (p := ⟨q, 0, none⟩) hql).trans hq
  go_enter Tryz.func39, Tryz.ntmps39
  go_wp2
  go_ret
  exact ⟨rfl, hb⟩



set_option maxHeartbeats 4000000 in
theorem head_any (a : Option Addr) (n cap : Nat) (C : List M.Com) (a2 : Option Addr) (n2 cap2 : Nat) (H : List M.Hd) (s : ByteArray) (w : World) (hC : Cm w a n C) (hn : n ≤ 9223372036854775807) (hH : Hs w a2 n2 H) (hn2 : n2 ≤ 9223372036854775807) :
    Calls Tryz.prog 13 #[.agg #[.slice a n cap, .slice a2 n2 cap2], .string s] w fun e w' => e = .returned (.tuple #[.int .i64 (M.hat C H s), .int .i64 (M.hchk C H s)]) ∧ Below w.heap.size w w' := by
  obtain ⟨p, hp⟩ : ∃ p, p = w.heap.size := ⟨_, rfl⟩
  have I0 := InBox.new w a n cap C a2 n2 cap2 H hC hH
  have hb0 : Below w.heap.size w (w.alloc (.cells #[.slice a n cap, .slice a2 n2 cap2] 25)) := (Below.refl _ _).alloc (Nat.le_refl _) _
  obtain ⟨W, hW⟩ : ∃ W, W = (w.alloc (.cells #[.slice a n cap, .slice a2 n2 cap2] 25)).alloc (.cells #[.string s] 9) := ⟨_, rfl⟩
  have I1 := I0.below (w' := W) (by rw [hW]; exact (Below.refl _ _).alloc (Nat.le_refl _) _)
  have hb : Below w.heap.size w W := by rw [hW]; exact hb0.alloc (by simp) _
  have hq : W.cell? ⟨p + 1, 0, none⟩ = some (.string s) := by rw [hW, hp]; simp [go_sem]
  have hqW : p + 1 < W.heap.size := by rw [hW, hp]; simp
  rw [← hp] at I1
  have q0 := I1.c0
  have q1 := I1.c1
  have HK := rcheck_any a n cap C a2 n2 cap2 H W I1.cm hn I1.hs hn2
  obtain ⟨c, hc⟩ : ∃ c, c = M.rchk C H := ⟨_, rfl⟩
  rw [← hc] at HK
  have HCc : Aside (c = M.rchk C H) := hc
  have HKK : Hid (Calls Tryz.prog 11 #[.agg #[.slice a n cap, .slice a2 n2 cap2]] W fun e w' => e = .returned (.int .i64 c) ∧ Below W.heap.size W w') := HK
  have HI : Aside (InBox W p a n cap C a2 n2 cap2 H) := I1
  have HQ : Aside (W.cell? ⟨p + 1, 0, none⟩ = some (.string s)) := hq
  have HW : Hid (W = (w.alloc (.cells #[.slice a n cap, .slice a2 n2 cap2] 25)).alloc (.cells #[.string s] 9)) := hW
  have HP : Aside (p = w.heap.size) := hp
  have HHl : Aside (H.length = n2) := hH.1
  clear hW HK hc hp I0 I1 hb0 hC hH hq
  go_enter Tryz.func13, Tryz.ntmps13
  go_wp2_with fail
  rw [← HW.out, ← HP.out]
  go_wp2_with fail
  refine HKK.out.mono ?_
  rintro e w1 ⟨rfl, hb1⟩
  have J1 := HI.out.below hb1
  have d0 := J1.c0
  have d1 := J1.c1
  have dq : w1.cell? ⟨p + 1, 0, none⟩ = some (.string s) := (hb1.cell (p := ⟨p + 1, 0, none⟩) hqW).trans HQ.out
  have hq1 : p + 1 < w1.heap.size := Nat.lt_of_lt_of_le hqW hb1.size
  have HJ : Aside (InBox w1 p a n cap C a2 n2 cap2 H) := J1
  clear J1 q0 q1
  by_cases hz : c = 0
  · have hne : (c != 0) = false := by simp [hz]
    have HZ : Aside (M.rchk C H = 0) := by unfold Aside; rw [← HCc.out]; exact hz
    clear hz
    have K := index_any 39 [.pointer (some ⟨p + 1, 0, none⟩)] (enters_of Tryz.func39 (by kernel_rfl) rfl) (fun h => M.alike h.1 s) a2 n2 cap2 H w1 HJ.out.hs hn2 (fun W' x hx hbx => head1_any x (p + 1) s W' ((hbx.cell (p := ⟨p + 1, 0, none⟩) hq1).trans dq) (Nat.lt_of_lt_of_le hq1 hbx.size))
    have KK : Hid (Calls Tryz.prog 38 #[.slice a2 n2 cap2, .func (.func 39) #[] #[.pointer (some ⟨p + 1, 0, none⟩)]] w1 fun e w' => e = .returned (.int .i64 (M.plc H s)) ∧ Below w1.heap.size w1 w') := K
    have hpl := M.plc_lt H s
    obtain ⟨i, hi⟩ : ∃ i, M.plc H s = i := ⟨_, rfl⟩
    rw [hi] at KK hpl
    rw [HHl.out] at hpl
    have HIi : Aside (M.plc H s = i) := hi
    clear K hi dq
    go_wp2_with fail
    refine KK.out.mono ?_
    rintro e w2 ⟨rfl, hb2⟩
    have b2 := dbelow2 hb1 hb2
    have J2 := HJ.out.below hb2
    have e0 := J2.c0
    have e1 := J2.c1
    clear d0 d1
    rcases hpl with rfl | ⟨h0, h1⟩
    · have E : Aside (M.hchk C H s = 5) := by unfold Aside M.hchk; rw [if_neg (by rw [HZ.out]; simp), HIi.out, if_pos (by omega)]
      clear J2
      go_wp2
      go_ret2
      exact ⟨ret_pair (M.hat_zero (by rw [E.out]; simp)).symm E.out.symm, hb.trans (b2.mono hb.size)⟩
    · obtain ⟨k, rfl⟩ : ∃ k : Nat, i = (k : Int) := ⟨i.toNat, by omega⟩
      have hk : k < n2 := by omega
      have E : Aside (M.hchk C H s = 0) := by unfold Aside M.hchk; rw [if_neg (by rw [HZ.out]; simp), HIi.out, if_neg (by omega)]
      obtain ⟨x, hx⟩ : ∃ x, (H.getD k M.hd0).2 = x := ⟨_, rfl⟩
      have E2 : Aside (M.hat C H s = x) := by unfold Aside M.hat; rw [if_neg (by rw [E.out]; simp), HIi.out, ← hx]; rfl
      obtain ⟨hb3, ho, rfl, c3⟩ : ∃ b off, a2 = some ⟨b, off, none⟩ ∧ w2.cell? ⟨b, off + k * 2 + 1, none⟩ = some (.int .i64 x) := by
        rcases J2.hs.cases with ⟨h0, _⟩ | ⟨b, off, ea, _, _, hB, hc⟩
        · omega
        · exact ⟨b, off, ea, by rw [(hc k hk).2.1, hx]⟩
      have hlt0 : decide ((k : Int) < 0) = false := by simp
      clear J2 hx h0
      go_wp2
      go_ret2
      exact ⟨ret_pair E2.out.symm E.out.symm, hb.trans (b2.mono hb.size)⟩
  · have hne : (c != 0) = true := by simp [hz]
    have E : Aside (M.hchk C H s = c) := by unfold Aside M.hchk; rw [if_pos (by rw [← HCc.out]; exact hz)]; exact HCc.out.symm
    have HZ : Aside (c ≠ 0) := hz
    clear hz
    go_wp2
    go_ret2
    exact ⟨ret_pair (M.hat_zero (by rw [E.out]; exact HZ.out)).symm E.out.symm, hb.trans (hb1.mono hb.size)⟩
end Go.Proofs.YtcgpgflnihjpiafGreat

/- One commit more in a row of the own. -/
namespace Go.Proofs.YtcgpgflnihjpiafGreat
open Go.RowKit

/-- One commit more. -/
theorem OwnK.append {w w1 : World} {base : Nat} {v v' : Value} {C : List M.Com} {c : M.Com} {p : Value × Value} {vals : List (Value × Value)} (hl : vals.length = C.length) (h1 : w.ownsRow base 51 2 v C.length (encP vals)) (h2 : ∀ i, i < C.length → OwnCo w base (vals.getD i vp0) (C.getD i ([], [])))
    (hp : OwnCo w base p c) (h3 : w1.ownsRow base 51 2 v' (C.length + 1) (encP vals ++ [p.1, p.2])) (hg : w.grownBy w1 v.ownBlock) : OwnK w1 base v' (C ++ [c]) := by
  have no : ∀ e, e ≠ 51 → ∀ r, v.ownBlock = some r → ∀ cur, w.heap[r]? ≠ some (.cells cur e (0, 0)) := by
    intro e he r hr cur hc
    rcases h1.2 with ⟨rfl, _⟩ | ⟨g, cap, cur', rfl, _, hgb, _⟩
    · simp [Value.ownBlock] at hr
    · obtain rfl : g = r := by simpa [Value.ownBlock] using hr
      rw [hgb] at hc
      simp at hc
      exact he hc.2.symm
  have keep : ∀ q d, OwnCo w base q d → OwnCo w1 base q d := fun q d h => ⟨ownsRow_elsewhere h.1 hg (no _ (by decide)), ownsRow_elsewhere h.2.1 hg (no _ (by decide)), h.2.2⟩
  refine ⟨vals ++ [p], by simp [hl], ?_, fun i hi => ?_⟩
  · rw [encP_append, List.length_append]
    exact h3
  · by_cases hlt : i < C.length
    · have e1 : (vals ++ [p]).getD i vp0 = vals.getD i vp0 := by simp [List.getD, List.getElem?_append_left (show i < vals.length by omega)]
      have e2 : (C ++ [c]).getD i ([], []) = C.getD i ([], []) := by simp [List.getD, List.getElem?_append_left hlt]
      rw [e1, e2]
      exact keep _ _ (h2 i hlt)
    · obtain rfl : i = C.length := by simp at hi; omega
      have e1 : (vals ++ [p]).getD C.length vp0 = p := by rw [← hl]; simp [List.getD]
      have e2 : (C ++ [c]).getD C.length ([], []) = c := by simp [List.getD]
      rw [e1, e2]
      exact keep _ _ hp
end Go.Proofs.YtcgpgflnihjpiafGreat

/- A desk. -/
namespace Go.Proofs.YtcgpgflnihjpiafGreat
open Go.RowKit

/-- A desk: its block D, what lies on it. -/
def DeskAt (w : World) (base D : Nat) (C : List M.Com) (H : List M.Hd) (A : List Int) : Prop :=
  ∃ x y z, w.heap[D]? = some (.cells #[x, y, z] 82 (0, 0)) ∧ base ≤ D ∧ OwnK w base x C ∧ OwnH w base y H ∧ OwnI w base z A
theorem DeskAt.lt {w : World} {base D : Nat} {C : List M.Com} {H : List M.Hd} {A : List Int} (h : DeskAt w base D C H A) : D < w.heap.size := by
  obtain ⟨x, y, z, h1, _⟩ := h
  exact (Array.getElem?_eq_some_iff.1 h1).1
theorem DeskAt.later {w w' : World} {base D : Nat} {C : List M.Com} {H : List M.Hd} {A : List Int} (h : DeskAt w base D C H A) (hb : Below w.heap.size w w') : DeskAt w' base D C H A := by
  obtain ⟨x, y, z, h1, h2, h3, h4, h5⟩ := h
  exact ⟨x, y, z, (hb.block D (Array.getElem?_eq_some_iff.1 h1).1).trans h1, h2, h3.later hb, h4.later hb, ownsRow_later h5 hb⟩
end Go.Proofs.YtcgpgflnihjpiafGreat

/- slices.Clone of rows, whatever they are. -/
namespace Go.Proofs.YtcgpgflnihjpiafGreat
open Go.RowKit

/-- slices.Clone of rows that are there. -/
theorem cloned_some (ad : Addr) (n cap : Nat) (l : List (Int × Int)) (w : World) (hn : n ≤ 1000) (h : Rd w (some ad) n l) :
    Calls Tryz.prog 88 #[.slice (some ad) n cap] w fun e w' => ∃ v, e = .returned v ∧ Own w' w.heap.size v l ∧ Below w.heap.size w w' := by
  have hnn : ∀ W, (binOp .eql 49 (.slice (some ad) n cap) (.slice none 0 0)).run Tryz.prog W = .ok (.bool false) W := fun W => by
    have h := Lib.run_eql_slice_nil (P := Tryz.prog) W 49 98 (some ad) n cap 0 0 Tryz.underlying49
    simpa using h
  have HR : Hid (Rd (w.alloc (.cells #[] 98)) (some ad) n l) := h.below ((Below.refl _ _).alloc (Nat.le_refl _) _) (Nat.le_refl _)
  have HO : Hid (Own (w.alloc (.cells #[] 98)) w.heap.size (.slice (some ⟨w.heap.size, 0, none⟩) 0 0) []) := World.ownsRow_made (base := w.heap.size) (e := 98) (size := 2) w #[] 0 (Nat.le_refl _) (by simp [maxLen]) rfl
  clear h
  go_enter Tryz.func88, Tryz.ntmps88
  go_wp2_with (at_builtin; refine append_rd rfl _ _ rfl w.heap.size _ [] rfl HO.out (some ad) n cap l rfl HR.out (by simp) (by simp; omega) (by simp) ?_)
  intro v' w' ho' hb3
  have HO' : Hid (Own w' w.heap.size v' l) := ho'
  have hb4 : Below w.heap.size w w' := ((Below.refl _ _).alloc (Nat.le_refl _) _).trans hb3
  clear ho' hb3
  go_wp2
  go_ret
  exact ⟨_, rfl, HO'.out, hb4⟩

theorem cloned_nil (w : World) :
    Calls Tryz.prog 88 #[.slice none 0 0] w fun e w' => e = .returned (.slice none 0 0) ∧ w' = w := by
  have hnn : ∀ W, (binOp .eql 49 (.slice none 0 0) (.slice none 0 0)).run Tryz.prog W = .ok (.bool true) W := fun W => by
    have h := Lib.run_eql_slice_nil (P := Tryz.prog) W 49 98 none 0 0 0 0 Tryz.underlying49
    simpa using h
  go_enter Tryz.func88, Tryz.ntmps88
  go_wp2
  go_ret
  exact ⟨rfl, rfl⟩
theorem cloned_any (a : Option Addr) (n cap : Nat) (l : List (Int × Int)) (w : World) (hn : n ≤ 1000) (h : Rd w a n l) (hnil : a = none → n = 0 ∧ cap = 0) :
    Calls Tryz.prog 88 #[.slice a n cap] w fun e w' => ∃ v, e = .returned v ∧ Own w' w.heap.size v l ∧ Below w.heap.size w w' := by
  cases a with
  | none =>
    obtain ⟨rfl, rfl⟩ := hnil rfl
    have e : l = [] := List.eq_nil_of_length_eq_zero h.1
    subst e
    refine (cloned_nil w).mono ?_
    rintro e w' ⟨rfl, rfl⟩
    exact ⟨_, rfl, World.ownsRow_nil _ _ _ _, Below.refl _ _⟩
  | some ad => exact cloned_some ad n cap l w hn h
end Go.Proofs.YtcgpgflnihjpiafGreat
