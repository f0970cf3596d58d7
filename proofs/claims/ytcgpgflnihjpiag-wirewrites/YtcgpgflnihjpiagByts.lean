/- Bytes appended to bytes of the own; the reference's twoBytes, texted. -/
import Derived.Test.YtcgpgflnihjpiagPen2
namespace Go.Proofs.Ytcgpgflnihjpiag
open Go.RowKit Go.Lib

/-- The bytes l lie in the block a. -/
def SrcB (w : World) (a : Nat) (l : M.By) : Prop := a < w.heap.size ∧ ∀ j u, (b8 l)[j]? = some u → w.cell? ((⟨a, 0, none⟩ : Addr).add j) = some u
theorem SrcB.keep {w w' : World} {a : Nat} {l : M.By} (h : SrcB w a l) (hb : w'.heap[a]? = w.heap[a]?) : SrcB w' a l := by
  refine ⟨?_, fun j u hj => ?_⟩
  · have h1 := h.1
    have : a < w'.heap.size := by
      rcases Nat.lt_or_ge a w'.heap.size with h2 | h2
      · exact h2
      · rw [Array.getElem?_eq_none h2, Array.getElem?_eq_getElem h1] at hb; cases hb
    exact this
  · rw [← h.2 j u hj, Addr.add_lit]
    exact World.cell?_of_block (a := ⟨a, 0 + j, none⟩) hb
theorem SrcB.later {w w' : World} {a : Nat} {l : M.By} (h : SrcB w a l) (hb : Below w.heap.size w w') : SrcB w' a l := h.keep (hb.block a h.1)
theorem srcB_one (w : World) (y : UInt8) : SrcB (w.alloc (.cells #[.int .u8 (y.toNat : Int)] 5)) w.heap.size [y] := by
  refine ⟨by simp, fun j u hj => ?_⟩
  match j, hj with
  | 0, hj => simp [b8] at hj; subst hj; simp [go_sem, Addr.add]
theorem srcB_two (w : World) (y z : UInt8) : SrcB (w.alloc (.cells #[.int .u8 (y.toNat : Int), .int .u8 (z.toNat : Int)] 5)) w.heap.size [y, z] := by
  refine ⟨by simp, fun j u hj => ?_⟩
  match j, hj with
  | 0, hj => simp [b8] at hj; subst hj; simp [go_sem, Addr.add]
  | 1, hj => simp [b8] at hj; subst hj; simp [go_sem, Addr.add]
theorem srcB_num (w : World) (n : Nat) (h : n < 256) : SrcB (w.alloc (.cells #[.int .u8 (n : Int)] 5)) w.heap.size [M.b1 (n : Int)] := by
  have e := M.b1_nat (n := (n : Int)) (by omega) (by omega)
  have := srcB_one w (M.b1 (n : Int))
  rw [e] at this
  exact this
theorem ownB_num (w : World) (n : Nat) (h : n < 256) : OwnB (w.alloc (.cells #[.int .u8 (n : Int)] 5)) w.heap.size (.slice (some ⟨w.heap.size, 0, none⟩) 1 1) [M.b1 (n : Int)] := by
  have e := M.b1_nat (n := (n : Int)) (by omega) (by omega)
  rw [← e, M.b1_of]
  rw [show M.b1 (n : Int) = M.b1 (n : Int) from rfl]
  exact ⟨rfl, Or.inr ⟨w.heap.size, 1, _, rfl, Nat.le_refl _, heap_alloc_new _ _, Nat.le_refl _, by simp [maxLen], rfl, rfl⟩⟩
theorem ownB_src {w : World} {base : Nat} {v : Value} {l : M.By} (h : OwnB w base v l) (hl : 0 < l.length) : ∃ a c, v = .slice (some ⟨a, 0, none⟩) l.length c ∧ SrcB w a l := by
  have h0 := h
  obtain ⟨h1, h2⟩ := h
  rcases h2 with ⟨rfl, hn⟩ | ⟨g, cap, cur, rfl, hb, hh, hc, hm, hs, hx⟩
  · omega
  · refine ⟨g, cap, rfl, (Array.getElem?_eq_some_iff.1 hh).1, fun j u hj => ?_⟩
    have hjl : j < (b8 l).length := (List.getElem?_eq_some_iff.1 hj).1
    have hjl : j < l.length := by simpa [b8] using hjl
    rw [Addr.add_lit, Nat.zero_add, World.ownsRow.cellAt h0 j (by omega)]
    exact hj
theorem ownB_slice {w : World} {base : Nat} {v : Value} {l : M.By} (h : OwnB w base v l) : ∃ a n c, v = .slice a n c := by
  rcases h.2 with ⟨e, _⟩ | ⟨g, c, _, e, _⟩
  · exact ⟨_, _, _, e⟩
  · exact ⟨_, _, _, e⟩
theorem ownB_conv {w : World} {base : Nat} {va : Option Addr} {vn vc : Nat} {l : M.By} (h : OwnB w base (.slice va vn vc) l) : (convert 39 9 (.slice va vn vc)).run Try.prog w = .ok (.string (M.str l)) w := by
  rcases h.2 with ⟨e, e2⟩ | ⟨g, c, cur, e, hg, hgb, h4, h5, h6, h7⟩
  · simp at e
    obtain ⟨rfl, rfl, rfl⟩ := e
    obtain rfl : l = [] := List.eq_nil_of_length_eq_zero (by simpa using e2)
    exact run_convert_nil_bytes w _ _ 5 _ (by kernel_rfl) (by kernel_rfl) (by kernel_rfl)
  · simp at e
    obtain ⟨rfl, rfl, rfl⟩ := e
    refine run_convert_bytes_back w _ _ 5 _ _ l (by kernel_rfl) (by kernel_rfl) (by kernel_rfl) (fun j hj => ?_)
    have hj2 : j < cur.size := by have := congrArg List.length h7; simp [b8] at this; omega
    rw [Addr.add_lit, cell_of_row _ _ _ _ _ _ hgb]
    have h8 : (cur.toList.take (l.length * 1))[j]? = (b8 l)[j]? := by rw [h7]
    rw [List.getElem?_take_of_lt (by omega)] at h8
    simp [b8, hj] at h8
    simpa using h8
theorem step_bys {w : World} {ops : Array Oper} {o : Oper} {a : Act} {K : Act → World → Prop} {Q : Exit → Act → World → Prop} {E : Prop} (hgd : o.guard = none) (s x : Operand)
    (ho : o.op = .call { callee := .builtin .append, args := #[s, x], argTypes := #[39, 39] })
    (base : Nat) (v : Value) (l : M.By) (hs : a.eval s = v) (hown : OwnB w base v l) (g m c : Nat) (l2 : M.By) (hx : a.eval x = .slice (some ⟨g, 0, none⟩) m c) (hl2 : l2.length = m) (hsrc : SrcB w g l2)
    (hbig : l.length + m ≤ 1000000) (hbase : base ≤ w.heap.size)
    (h : ∀ v' w', OwnB w' base v' (l ++ l2) → w.grownBy w' v.ownBlock → K (a.put o.dst v') w') : if Region.wanted o (yielded ops a.tmps) = true then Oper.wp Try.prog o a w K Q else E := by
  obtain ⟨i0, hi, hz0, hz1, hz2⟩ := info_parts infoU8
  refine step_append_any hgd s x _ ho base 5 i0 (.int .u8 0) 1 1 (by kernel_rfl) hi hz0 hz1 hz2 rfl (by omega) v l.length (b8 l) hs hown (some ⟨g, 0, none⟩) m c (b8 l2) hx (by simp [b8, hl2]) (fun ad' e j u hj => ?_) (fun e => by simp at e) (fun u hu => ?_) (by unfold maxLen; omega) (by omega) hbase (fun v' w' h1 h2 => h v' w' ?_ h2)
  · cases e
    exact hsrc.2 j u hj
  · simp [b8] at hu
    obtain ⟨y, _, rfl⟩ := hu
    rfl
  · unfold OwnB
    rw [b8_append, List.length_append, hl2]
    exact h1
theorem wpl_bys {w : World} {ops : Array Oper} {rest : List Oper} {o : Oper} {a : Act} {Q : Exit → Act → World → Prop} (hgd : o.guard = none) (s x : Operand)
    (ho : o.op = .call { callee := .builtin .append, args := #[s, x], argTypes := #[39, 39] })
    (base : Nat) (v : Value) (l : M.By) (hs : a.eval s = v) (hown : OwnB w base v l) (g m c : Nat) (l2 : M.By) (hx : a.eval x = .slice (some ⟨g, 0, none⟩) m c) (hl2 : l2.length = m) (hsrc : SrcB w g l2)
    (hbig : l.length + m ≤ 1000000) (hbase : base ≤ w.heap.size)
    (h : ∀ v' w', OwnB w' base v' (l ++ l2) → w.grownBy w' v.ownBlock → wpList Try.prog ops Q rest (a.put o.dst v') w') : wpList Try.prog ops Q (o :: rest) a w := by
  refine wpList_plain hgd fun K hK => ?_
  have := step_bys (ops := ops) (K := K) (Q := Q) (E := True) hgd s x ho base v l hs hown g m c l2 hx hl2 hsrc hbig hbase (fun v' w' h1 h2 => hK _ _ (h v' w' h1 h2))
  rwa [if_pos (by simp [Region.wanted, hgd])] at this
/-- What an append of bytes keeps. -/
theorem ownB_grown {w w' : World} {base : Nat} {v : Value} {l : M.By} (h : OwnB w base v l) (hg : w.grownBy w' v.ownBlock) (hb : base ≤ w.heap.size) : Below base w w' ∧ Kp w w' :=
  ⟨(Below.refl _ _).grown hg hb (fun k e => (World.ownsRow.lt h k e).1), Kp.grown hg (ownB_block h)⟩
theorem SrcB.grown {w w' : World} {a : Nat} {v : Value} {m : M.By} (h : SrcB w a m) (hg : w.grownBy w' v.ownBlock) (hne : ∀ k, v.ownBlock = some k → k ≠ a) : SrcB w' a m :=
  h.keep (hg.block a h.1 (fun e => hne a e.symm rfl))
theorem ownB_lt {w : World} {base : Nat} {v : Value} {l : M.By} (h : OwnB w base v l) : ∀ k, v.ownBlock = some k → k < w.heap.size := by
  intro k e
  obtain ⟨cur, t, hc, _⟩ := ownB_block h k e
  exact (Array.getElem?_eq_some_iff.1 hc).1

set_option maxRecDepth 100000 in
set_option maxHeartbeats 4000000 in
theorem twoB_any (n : Nat) (w : World) (hn : n < 65536) :
    Calls Try.prog 20 #[.int .i64 (n : Int)] w fun e w' => ∃ a c, e = .returned (.slice (some ⟨a, 0, none⟩) 2 c) ∧ SrcB w' a (M.b2 (n : Int)) ∧ w.heap.size ≤ a ∧ Below w.heap.size w w' := by
  obtain ⟨y, hy⟩ : ∃ y, y = UInt8.ofNat (n / 256) := ⟨_, rfl⟩
  obtain ⟨z, hz⟩ : ∃ z, z = UInt8.ofNat (n % 256) := ⟨_, rfl⟩
  have HY : Hid ((y.toNat : Int) = (n : Int) / 256) := by unfold Hid; rw [hy, UInt8.toNat_ofNat']; omega
  have HZ : Hid ((z.toNat : Int) = (n : Int) % 256) := by unfold Hid; rw [hz, UInt8.toNat_ofNat']; omega
  have HB : Hid (M.b2 (n : Int) = [y, z]) := by unfold Hid M.b2; rw [hy, hz]; rfl
  clear hy hz
  go_enter Try.func20, Try.ntmps20
  go_wp2
  go_ret
  rw [← HY.out, ← HZ.out]
  exact ⟨w.heap.size, 2, rfl, by rw [HB.out]; exact srcB_two w y z, Nat.le_refl _, (Below.refl _ _).alloc (Nat.le_refl _) _⟩

set_option maxRecDepth 100000 in
set_option maxHeartbeats 4000000 in
theorem texted_any (s : M.By) (w : World) (hs : s.length < 256) :
    Calls Try.prog 21 #[.string (M.str s)] w fun e w' => ∃ a c, e = .returned (.slice (some ⟨a, 0, none⟩) (s.length + 1) c) ∧ SrcB w' a (M.pT s) ∧ w.heap.size ≤ a ∧ Below w.heap.size w w' := by
  obtain ⟨t, ht⟩ : ∃ t, t = M.str s := ⟨_, rfl⟩
  obtain ⟨n, hn⟩ : ∃ n, n = s.length := ⟨_, rfl⟩
  have hts : t.size = n := by rw [ht, M.str_size, hn]
  obtain ⟨y, hy⟩ : ∃ y, y = M.b1 (s.length : Int) := ⟨_, rfl⟩
  have hyn : (y.toNat : Int) = (n : Int) := by rw [hy, M.b1_nat (by omega) (by omega), hn]
  have HO : Hid (OwnB (w.alloc (.cells #[.int .u8 (n : Int)] 5)) w.heap.size (.slice (some ⟨w.heap.size, 0, none⟩) 1 1) [y]) := by
    rw [← hyn]
    refine ⟨rfl, Or.inr ⟨w.heap.size, 1, #[.int .u8 (y.toNat : Int)], rfl, Nat.le_refl _, heap_alloc_new _ _, Nat.le_refl _, by simp [maxLen], rfl, rfl⟩⟩
  have HP : Hid (M.pT s = y :: s) := by unfold Hid M.pT; rw [hy]
  have HT : Hid (t = M.str s) := ht
  have HN : Aside (n = s.length) := hn
  have hn256 : n < 256 := by omega
  rw [← ht, ← hn]
  clear ht hn hy hyn hs
  go_enter Try.func21, Try.ntmps21
  go_wp2_with (at_builtin; refine append_text rfl _ _ rfl w.heap.size _ [y] s rfl (congrArg Value.string HT.out) HO.out (by have := HN.out; simp; omega) (by simp) ?_)
  intro v8 w8 o8 g8
  have b8' : Below w.heap.size w w8 := ((Below.refl _ _).alloc (Nat.le_refl _) _).trans (ownB_grown HO.out g8 (by simp)).1
  have o8 : OwnB w8 w.heap.size v8 (y :: s) := o8
  rw [← HP.out] at o8
  obtain ⟨a, c, hv, hsr⟩ := ownB_src o8 (by unfold M.pT; simp)
  have hpl : (M.pT s).length = n + 1 := by unfold M.pT; rw [List.length_cons, ← HN.out]
  rw [hpl] at hv
  subst hv
  have hwa : w.heap.size ≤ a := (World.ownsRow.lt o8 a rfl).1
  have HSr : Hid (SrcB w8 a (M.pT s)) := hsr
  clear o8 g8 hsr hpl
  go_wp2
  go_ret
  exact ⟨a, c, rfl, HSr.out, hwa, b8'⟩
end Go.Proofs.Ytcgpgflnihjpiag
