/- A pen: Bytes, Pairs, Text, Written. -/
import Derived.Test.YtcgpgflnihjpiagPen1
namespace Go.Proofs.Ytcgpgflnihjpiag
open Go.RowKit Go.Lib

/-- Numbers that lie in a block of their own stay whatever is put. -/
theorem ri_kept {w w' : World} {k : Nat} {ns : List Int} (h : w.heap[k]? = some (.cells (ns.map (Value.int .i64)).toArray 3 (0, 0))) (hk : Kp w w') : Ri w' (some ⟨k, 0, none⟩) ns.length ns := by
  have h1 := hk k _ _ (by decide) (by decide) h
  refine ⟨rfl, Or.inr ⟨k, 0, rfl, (Array.getElem?_eq_some_iff.1 h1).1, fun i hi => ?_⟩⟩
  rw [cell_of_row _ _ _ _ _ _ h1]
  simp [List.getD, hi]

set_option maxRecDepth 100000 in
set_option maxHeartbeats 4000000 in
theorem pbytes_any (b base : Nat) (l : M.By) (ov : Bool) (a : Option Addr) (m cap : Nat) (ns : List Int) (w : World) (hP : PenAt w base b l ov) (hr : ∀ w', Below base w w' → Kp w w' → Ri w' a m ns) (hm : m ≤ 1000) (hll : l.length ≤ 400000) :
    Calls Try.prog 13 #[.pointer (some ⟨b, 0, none⟩), .slice a m cap] w fun e w' => (∃ v, e = .returned v) ∧ PenAt w' base b (M.pnL false (l, ov) ns).1 (M.pnL false (l, ov) ns).2 ∧ Below base w w' ∧ Kp w w' := by
  have K := pput1_any b base l ov a m cap ns w hP hr hm (fun k => by
    have h1 := M.pnL_len false (l, ov) (ns.take k)
    have h2 : (ns.take k).length ≤ m := by rw [← (hr w (Below.refl _ _) (Kp.refl _)).1, List.length_take]; omega
    simp only at h1
    omega)
  have HK : Hid (Calls Try.prog 35 #[.pointer (some ⟨b, 0, none⟩), .int .i64 256, .slice a m cap] w fun e w' => (∃ v, e = .returned v) ∧ PenAt w' base b (M.pnL false (l, ov) ns).1 (M.pnL false (l, ov) ns).2 ∧ Below base w w' ∧ Kp w w') := K
  clear K hP hr
  go_enter Try.func13, Try.ntmps13
  go_wp2_with fail
  refine HK.out.mono ?_
  rintro e w1 ⟨⟨v, rfl⟩, h1, h2, h3⟩
  have H1 : Hid (PenAt _ _ _ _ _) := h1
  clear h1
  go_wp2
  go_end0
  exact ⟨⟨_, rfl⟩, H1.out, h2, h3⟩
set_option maxRecDepth 100000 in
set_option maxHeartbeats 4000000 in
theorem ppairs_any (b base : Nat) (l : M.By) (ov : Bool) (a : Option Addr) (m cap : Nat) (ns : List Int) (w : World) (hP : PenAt w base b l ov) (hr : ∀ w', Below base w w' → Kp w w' → Ri w' a m ns) (hm : m ≤ 1000) (hll : l.length ≤ 400000) :
    Calls Try.prog 36 #[.pointer (some ⟨b, 0, none⟩), .slice a m cap] w fun e w' => (∃ v, e = .returned v) ∧ PenAt w' base b (M.pnL true (l, ov) ns).1 (M.pnL true (l, ov) ns).2 ∧ Below base w w' ∧ Kp w w' := by
  have K := pput2_any b base l ov a m cap ns w hP hr hm (fun k => by
    have h1 := M.pnL_len true (l, ov) (ns.take k)
    have h2 : (ns.take k).length ≤ m := by rw [← (hr w (Below.refl _ _) (Kp.refl _)).1, List.length_take]; omega
    simp only at h1
    omega)
  have HK : Hid (Calls Try.prog 35 #[.pointer (some ⟨b, 0, none⟩), .int .i64 65536, .slice a m cap] w fun e w' => (∃ v, e = .returned v) ∧ PenAt w' base b (M.pnL true (l, ov) ns).1 (M.pnL true (l, ov) ns).2 ∧ Below base w w' ∧ Kp w w') := K
  clear K hP hr
  go_enter Try.func36, Try.ntmps36
  go_wp2_with fail
  refine HK.out.mono ?_
  rintro e w1 ⟨⟨v, rfl⟩, h1, h2, h3⟩
  have H1 : Hid (PenAt _ _ _ _ _) := h1
  clear h1
  go_wp2
  go_end0
  exact ⟨⟨_, rfl⟩, H1.out, h2, h3⟩

theorem strCells_b8 (s : M.By) : strCells (M.str s) = b8 s := by
  simp [strCells, M.str, b8]
/-- A text's bytes are appended. -/
theorem append_text {w : World} {ops : Array Oper} {rest : List Oper} {o : Oper} {a : Act} {Q : Exit → Act → World → Prop} (hgd : o.guard = none) (s x : Operand)
    (ho : o.op = .call { callee := .builtin .append, args := #[s, x], argTypes := #[39, 9] })
    (base : Nat) (v : Value) (l t : M.By) (hs : a.eval s = v) (hx : a.eval x = .string (M.str t)) (hown : OwnB w base v l)
    (hbig : l.length + t.length ≤ 1000000) (hbase : base ≤ w.heap.size)
    (h : ∀ v' w', OwnB w' base v' (l ++ t) → w.grownBy w' v.ownBlock → wpList Try.prog ops Q rest (a.put o.dst v') w') : wpList Try.prog ops Q (o :: rest) a w := by
  obtain ⟨i0, hi, hz0, hz1, hz2⟩ := info_parts infoU8
  obtain ⟨v', w', hrun, ho', hg, _⟩ := run_append_own_string (P := Try.prog) w base 39 9 o.type 5 i0 (by kernel_rfl) (by kernel_rfl) hi hz0 hz1 hz2 v l.length (b8 l) hown (M.str t) (by rw [M.str_size]; unfold maxLen; omega) (by rw [M.str_size]; omega) hbase
  have hk := h v' w' (by unfold OwnB; rw [b8_append, List.length_append]; rw [M.str_size, strCells_b8] at ho'; exact ho') hg
  refine wpList_plain hgd fun K hK => ?_
  unfold Oper.wp execOp
  simp only [ho, resolve, invoke, builtin, Sem.run_bind, Sem.run_pure, Result.andThen_ok, List.map_toArray, List.map_cons, List.map_nil, hs, hx, hrun]
  exact hK _ _ hk

set_option maxRecDepth 100000 in
set_option maxHeartbeats 8000000 in
theorem ptext_any (b base : Nat) (l : M.By) (ov : Bool) (s : M.By) (w : World) (hP : PenAt w base b l ov) (hs : s.length ≤ 9223372036854775807) (hll : l.length ≤ 300000) :
    Calls Try.prog 15 #[.pointer (some ⟨b, 0, none⟩), .string (M.str s)] w fun e w' => (∃ v, e = .returned v) ∧ PenAt w' base b (M.pnT (l, ov) s).1 (M.pnT (l, ov) s).2 ∧ Below base w w' ∧ Kp w w' := by
  have hbb : base ≤ b := by obtain ⟨_, _, h, _⟩ := hP; exact h
  have hbs : base ≤ w.heap.size := Nat.le_trans hbb (Nat.le_of_lt hP.lt)
  obtain ⟨W, hW⟩ : ∃ W, W = w.alloc (.cells #[.int .i64 (s.length : Int)] 3) := ⟨_, rfl⟩
  have hb0 : Below w.heap.size w W := by rw [hW]; exact (Below.refl _ _).alloc (Nat.le_refl _) _
  have hW0 : W.heap[w.heap.size]? = some (.cells #[.int .i64 (s.length : Int)] 3 (0, 0)) := by rw [hW]; exact heap_alloc_new _ _
  have K := pbytes_any b base l ov (some ⟨w.heap.size, 0, none⟩) 1 1 [(s.length : Int)] W (hP.later hb0) (fun w' _ hk => ri_kept hW0 hk) (by omega) (by omega)
  have HK : Hid (Calls Try.prog 13 #[.pointer (some ⟨b, 0, none⟩), .slice (some ⟨w.heap.size, 0, none⟩) 1 1] W fun e w' => (∃ v, e = .returned v) ∧ PenAt w' base b (M.pnS false (l, ov) (s.length : Int)).1 (M.pnS false (l, ov) (s.length : Int)).2 ∧ Below base W w' ∧ Kp W w') := K
  have HW : Hid (W = w.alloc (.cells #[.int .i64 (s.length : Int)] 3)) := hW
  have hbel : Below base w W := hb0.mono hbs
  have hkp : Kp w W := Kp.of hb0
  obtain ⟨str, hstr⟩ : ∃ str, str = M.str s := ⟨_, rfl⟩
  have hsz : str.size = s.length := by rw [hstr, M.str_size]
  have HS : Hid (str = M.str s) := hstr
  rw [← hstr]
  obtain ⟨sl, hsl⟩ : ∃ sl, sl = s.length := ⟨_, rfl⟩
  have HSl : Hid (sl = s.length) := hsl
  have hsl8 : sl ≤ 9223372036854775807 := by omega
  rw [← hsl] at hsz HK HW
  have hlen := M.pnS_len false (l, ov) (sl : Int)
  have HT : Hid (M.pnT (l, ov) s = if (M.pnS false (l, ov) (sl : Int)).2 = true then M.pnS false (l, ov) (sl : Int) else ((M.pnS false (l, ov) (sl : Int)).1 ++ s, false)) := by rw [hsl]; rfl
  have HB : Hid ((M.pnS false (l, ov) (sl : Int)).2 = false → sl < 256) := M.pnS_small
  generalize M.pnS false (l, ov) (sl : Int) = st at *
  obtain ⟨l1, o1⟩ := st
  simp only at hlen
  clear K hP hW hstr hsl hs hb0 hW0
  go_enter Try.func15, Try.ntmps15
  go_wp2_with fail
  rw [← HW.out]
  refine HK.out.mono ?_
  rintro e w1 ⟨⟨v, rfl⟩, h1, h2, h3⟩
  obtain ⟨v1, blk, _, ob⟩ := h1
  obtain ⟨va, vn, vc, rfl⟩ : ∃ va vn vc, v1 = .slice va vn vc := by
    rcases ob.2 with ⟨e, _⟩ | ⟨g, c, _, e, _⟩
    · exact ⟨_, _, _, e⟩
    · exact ⟨_, _, _, e⟩
  have c0 : w1.cell? ⟨b, 0, none⟩ = some (.slice va vn vc) := by rw [cell_of_row _ _ _ _ _ _ blk]; rfl
  have c1 : w1.cell? ⟨b, 1, none⟩ = some (.bool o1) := by rw [cell_of_row _ _ _ _ _ _ blk]; rfl
  have hbw1 := hbel.trans h2
  have hkw1 := hkp.trans h3
  have Hblk : Hid (w1.heap[b]? = some (.cells #[.slice va vn vc, .bool o1] 41 (0, 0))) := blk
  have Hob : Hid (OwnB w1 base (.slice va vn vc) l1) := ob
  have hbs1 : base ≤ w1.heap.size := Nat.le_trans hbs hbw1.size
  clear h2 h3 blk ob hbel hkp HK
  cases o1 with
  | true =>
    go_wp2
    go_end0
    refine ⟨⟨_, rfl⟩, ?_, hbw1, hkw1⟩
    rw [HT.out]
    exact ⟨_, Hblk.out, hbb, Hob.out⟩
  | false =>
    have hs2 : sl < 256 := HB.out rfl
    rw [HS.out]
    have hbig : l1.length + s.length ≤ 1000000 := by rw [← HSl.out]; omega
    go_wp2_with (at_builtin; refine append_text rfl _ _ rfl base _ l1 s rfl rfl Hob.out hbig hbs1 ?_)
    intro v8 w8 o8 g8
    obtain ⟨qa, qn, qc, rfl⟩ : ∃ qa qn qc, v8 = .slice qa qn qc := by
      rcases o8.2 with ⟨e, _⟩ | ⟨g, c, _, e, _⟩
      · exact ⟨_, _, _, e⟩
      · exact ⟨_, _, _, e⟩
    obtain ⟨P1, P2, P3, P4⟩ := PenAt.put (m := s) Hblk.out hbb Hob.out hbs1 g8 o8
    have k8 : w8.cell? ⟨b, 0, none⟩ = some (.slice va vn vc) := by rw [cell_of_row _ _ _ _ _ _ P2]; rfl
    have f8 : w8.frozen? ⟨b, 0, none⟩ = false := frozen_of_row _ _ _ _ _ P2
    have HP1 : Hid (PenAt (w8.setCell ⟨b, 0, none⟩ (.slice qa qn qc)) base b (l1 ++ s) false) := P1
    have HP3 : Hid (Below base w (w8.setCell ⟨b, 0, none⟩ (.slice qa qn qc))) := hbw1.trans P3
    have HP4 : Hid (Kp w (w8.setCell ⟨b, 0, none⟩ (.slice qa qn qc))) := hkw1.trans P4
    clear P1 P2 P3 P4 o8 g8 c0 c1
    go_wp2
    go_end0
    refine ⟨⟨_, rfl⟩, ?_, HP3.out, HP4.out⟩
    rw [HT.out]
    exact HP1.out

set_option maxRecDepth 100000 in
set_option maxHeartbeats 8000000 in
theorem written_any (b base : Nat) (l : M.By) (ov : Bool) (w : World) (hP : PenAt w base b l ov) :
    Calls Try.prog 16 #[.pointer (some ⟨b, 0, none⟩)] w fun e w' => e = .returned (.tuple #[.string (M.str (if ov = true then [] else l)), .int .i64 (if ov = true then 3 else 0)]) ∧ Below w.heap.size w w' := by
  obtain ⟨v1, blk, _, ob⟩ := hP
  obtain ⟨va, vn, vc, rfl⟩ : ∃ va vn vc, v1 = .slice va vn vc := by
    rcases ob.2 with ⟨e, _⟩ | ⟨g, c, _, e, _⟩
    · exact ⟨_, _, _, e⟩
    · exact ⟨_, _, _, e⟩
  have c0 : w.cell? ⟨b, 0, none⟩ = some (.slice va vn vc) := by rw [cell_of_row _ _ _ _ _ _ blk]; rfl
  have c1 : w.cell? ⟨b, 1, none⟩ = some (.bool ov) := by rw [cell_of_row _ _ _ _ _ _ blk]; rfl
  have hcv : (convert 39 9 (.slice va vn vc)).run Try.prog w = .ok (.string (M.str l)) w := by
    rcases ob.2 with ⟨e, e2⟩ | ⟨g, c, cur, e, hg, hgb, h4, h5, h6, h7⟩
    · simp at e
      obtain ⟨rfl, rfl, rfl⟩ := e
      obtain rfl : l = [] := List.eq_nil_of_length_eq_zero (by simpa using e2)
      exact run_convert_nil_bytes w _ _ 5 _ (by kernel_rfl) (by kernel_rfl) (by kernel_rfl)
    · simp at e
      obtain ⟨rfl, rfl, rfl⟩ := e
      refine run_convert_bytes_back w _ _ 5 _ _ l (by kernel_rfl) (by kernel_rfl) (by kernel_rfl) (fun j hj => ?_)
      have hj2 : j < cur.size := by have := congrArg List.length h7; simp [b8] at this; omega
      rw [Addr.add_lit, cell_of_row _ _ _ _ _ _ hgb]
      have h8 : (cur.toList.take (l.length * 1))[j]? = (b8 l)[j]? := by rw [h7]
      rw [List.getElem?_take_of_lt (by omega)] at h8
      simp [b8, hj] at h8
      simpa using h8
  clear blk ob
  go_enter Try.func16, Try.ntmps16
  cases ov with
  | true =>
    go_wp2
    go_ret2
    exact ⟨by simp [M.str], Below.refl _ _⟩
  | false =>
    go_wp2
    go_ret2
    exact ⟨by simp, Below.refl _ _⟩
end Go.Proofs.Ytcgpgflnihjpiag
