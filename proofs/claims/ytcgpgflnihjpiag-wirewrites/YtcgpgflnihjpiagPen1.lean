/- A pen: numbers are put as bytes. -/
import Derived.Test.YtcgpgflnihjpiagPen0
import Derived.Test.YtcgpgflnihjpiagByt3
import Derived.Test.YtcgpgflnihjpiagInts
import Derived.Test.YtcgpgflnihjpiagTill
import Derived.Test.YtcgpgflnihjpiagOwn2
import Derived.Test.YtcgpgflnihjpiagAp2
import Derived.Deep.AppendLies
import Derived.Lib.AppendStr
import Derived.Laws.IdiomStrings
import Derived.Lib.BufferRead
namespace Go.Proofs.Ytcgpgflnihjpiag
open Go.RowKit

def b8 (l : M.By) : List Value := l.map fun x => .int .u8 (x.toNat : Int)
theorem b8_append (a b : M.By) : b8 (a ++ b) = b8 a ++ b8 b := by simp [b8]
def OwnB (w : World) (base : Nat) (v : Value) (l : M.By) : Prop := w.ownsRow base 5 1 v l.length (b8 l)
/-- A pen lies in the block b. -/
def PenAt (w : World) (base b : Nat) (l : M.By) (ov : Bool) : Prop := ∃ v, w.heap[b]? = some (.cells #[v, .bool ov] 41 (0, 0)) ∧ base ≤ b ∧ OwnB w base v l
theorem PenAt.lt {w : World} {base b : Nat} {l : M.By} {ov : Bool} (h : PenAt w base b l ov) : b < w.heap.size := by
  obtain ⟨v, h1, _⟩ := h
  exact (Array.getElem?_eq_some_iff.1 h1).1
theorem PenAt.later {w w' : World} {base b : Nat} {l : M.By} {ov : Bool} (h : PenAt w base b l ov) (hb : Below w.heap.size w w') : PenAt w' base b l ov := by
  have hlt := h.lt
  obtain ⟨v, h1, h2, h3⟩ := h
  exact ⟨v, (hb.block b hlt).trans h1, h2, ownsRow_later h3 hb⟩
/-- Blocks of other kinds than a pen's stay. -/
def Kp (w w' : World) : Prop := ∀ (k : Nat) (cur : Array Value) (t : TypeId), t ≠ 41 → t ≠ 5 → w.heap[k]? = some (.cells cur t (0, 0)) → w'.heap[k]? = some (.cells cur t (0, 0))
theorem Kp.refl (w : World) : Kp w w := fun _ _ _ _ _ h => h
theorem Kp.trans {a b c : World} (h : Kp a b) (k : Kp b c) : Kp a c := fun n cur t h1 h2 e => k n cur t h1 h2 (h n cur t h1 h2 e)
theorem Kp.of {w w' : World} (h : Below w.heap.size w w') : Kp w w' := fun k _ _ _ _ e => (h.block k (Array.getElem?_eq_some_iff.1 e).1).trans e
theorem Kp.grown {w w' : World} {r : Option Nat} (h : w.grownBy w' r) (hr : ∀ k, r = some k → ∃ cur t, w.heap[k]? = some (.cells cur t (0, 0)) ∧ (t = 41 ∨ t = 5)) : Kp w w' := fun k cur t h1 h2 e => by
  rw [← e]
  refine h.block k (Array.getElem?_eq_some_iff.1 e).1 fun he => ?_
  obtain ⟨cur', t', hc, ht⟩ := hr k he.symm
  rw [hc] at e
  simp at e
  rcases ht with ht | ht
  · exact h1 (e.2 ▸ ht)
  · exact h2 (e.2 ▸ ht)
theorem ownB_block {w : World} {base : Nat} {v : Value} {l : M.By} (h : OwnB w base v l) : ∀ k, v.ownBlock = some k → ∃ cur t, w.heap[k]? = some (.cells cur t (0, 0)) ∧ (t = 41 ∨ t = 5) := by
  intro k e
  rcases h.2 with ⟨rfl, _⟩ | ⟨g, cap, cur, rfl, _, hg, _⟩
  · simp [Value.ownBlock] at e
  · obtain rfl : g = k := by simpa [Value.ownBlock] using e
    exact ⟨cur, _, hg, Or.inr rfl⟩
theorem infoU8 : (Try.prog.info? 5).map (fun i => (i.zero, i.size, i.bytes)) = some (some (.int .u8 0), 1, 1) := by kernel_rfl
/-- More bytes are put. -/
theorem PenAt.put {w w1 : World} {base b : Nat} {l m : M.By} {ov : Bool} {v v' : Value} (h1 : w.heap[b]? = some (.cells #[v, .bool ov] 41 (0, 0))) (h2 : base ≤ b) (h3 : OwnB w base v l) (hbw : base ≤ w.heap.size) (hg : w.grownBy w1 v.ownBlock) (h4 : OwnB w1 base v' (l ++ m)) :
    PenAt (w1.setCell ⟨b, 0, none⟩ v') base b (l ++ m) ov ∧ w1.heap[b]? = some (.cells #[v, .bool ov] 41 (0, 0)) ∧ Below base w (w1.setCell ⟨b, 0, none⟩ v') ∧ Kp w (w1.setCell ⟨b, 0, none⟩ v') := by
  have hlt := (Array.getElem?_eq_some_iff.1 h1).1
  have hne : v.ownBlock ≠ some b := fun e => by
    rcases h3.2 with ⟨rfl, _⟩ | ⟨g, cap, cur, rfl, _, hgb, _⟩
    · simp [Value.ownBlock] at e
    · obtain rfl : g = b := by simpa [Value.ownBlock] using e
      rw [h1] at hgb
      simp at hgb
  have hb1 : w1.heap[b]? = some (.cells #[v, .bool ov] 41 (0, 0)) := (hg.block b hlt (fun e => hne e.symm)).trans h1
  have g2 := grownBy_set w1 ⟨b, 0, none⟩ v'
  refine ⟨⟨v', ?_, h2, ownsRow_elsewhere h4 g2 fun r e cur he => ?_⟩, hb1, ((Below.refl _ _).grown hg hbw (fun k e => (World.ownsRow.lt h3 k e).1)).setCell (p := ⟨b, 0, none⟩) h2 _, (Kp.grown hg (ownB_block h3)).trans (Kp.grown g2 fun k e => ?_)⟩
  · rw [heap_setCell_same _ _ _ _ _ _ hb1]; rfl
  · cases e
    rw [show w1.heap[b]? = _ from hb1] at he
    simp at he
  · cases e
    exact ⟨_, _, hb1, Or.inl rfl⟩
/-- A number could not stand. -/
theorem PenAt.mark {w : World} {base b : Nat} {l : M.By} {ov : Bool} {v : Value} (h1 : w.heap[b]? = some (.cells #[v, .bool ov] 41 (0, 0))) (h2 : base ≤ b) (h3 : OwnB w base v l) :
    PenAt (w.setCell ⟨b, 1, none⟩ (.bool true)) base b l true ∧ Below base w (w.setCell ⟨b, 1, none⟩ (.bool true)) ∧ Kp w (w.setCell ⟨b, 1, none⟩ (.bool true)) := by
  have g2 := grownBy_set w ⟨b, 1, none⟩ (.bool true)
  refine ⟨⟨v, ?_, h2, ownsRow_elsewhere h3 g2 fun r e cur he => ?_⟩, (Below.refl _ _).setCell (p := ⟨b, 1, none⟩) h2 _, Kp.grown g2 fun k e => ?_⟩
  · rw [heap_setCell_same _ _ _ _ _ _ h1]; rfl
  · cases e
    rw [show w.heap[b]? = _ from h1] at he
    simp at he
  · cases e
    exact ⟨_, _, h1, Or.inl rfl⟩

theorem step_byte {w : World} {ops : Array Oper} {o : Oper} {a : Act} {K : Act → World → Prop} {Q : Exit → Act → World → Prop} {E : Prop} (hgd : o.guard = none) (s x : Operand)
    (ho : o.op = .call { callee := .builtin .append, args := #[s, x], argTypes := #[39, 39] })
    (base : Nat) (v : Value) (l : M.By) (hs : a.eval s = v) (hown : OwnB w base v l) (ad : Addr) (y : UInt8) (hx : a.eval x = .slice (some ad) 1 1) (hc : w.cell? (ad.add 0) = some (.int .u8 (y.toNat : Int)))
    (hbig : l.length + 1 ≤ 1000000) (hbase : base ≤ w.heap.size)
    (h : ∀ v' w', OwnB w' base v' (l ++ [y]) → w.grownBy w' v.ownBlock → K (a.put o.dst v') w') : if Region.wanted o (yielded ops a.tmps) = true then Oper.wp Try.prog o a w K Q else E := by
  obtain ⟨i0, hi, hz0, hz1, hz2⟩ := info_parts infoU8
  refine step_append_any hgd s x _ ho base 5 i0 (.int .u8 0) 1 1 (by kernel_rfl) hi hz0 hz1 hz2 rfl (by omega) v l.length (b8 l) hs hown (some ad) 1 1 (b8 [y]) hx rfl (fun ad' e j u hj => ?_) (fun e => by simp at e) (fun u hu => ?_) (by unfold maxLen; omega) (by omega) hbase (fun v' w' h1 h2 => h v' w' ?_ h2)
  · obtain rfl : ad = ad' := by simpa using e
    match j, hj with
    | 0, hj => simp [b8] at hj; rw [← hj]; exact hc
  · simp [b8] at hu; rw [hu]; rfl
  · unfold OwnB
    rw [b8_append, List.length_append]
    exact h1
set_option maxRecDepth 100000 in
set_option maxHeartbeats 8000000 in
theorem pput1_any (b base : Nat) (l : M.By) (ov : Bool) (a : Option Addr) (m cap : Nat) (ns : List Int) (w : World) (hP : PenAt w base b l ov) (hr : ∀ w', Below base w w' → Kp w w' → Ri w' a m ns) (hm : m ≤ 1000) (hll : ∀ k, (M.pnL false (l, ov) (ns.take k)).1.length ≤ 500000) :
    Calls Try.prog 35 #[.pointer (some ⟨b, 0, none⟩), .int .i64 256, .slice a m cap] w fun e w' => (∃ v, e = .returned v) ∧ PenAt w' base b (M.pnL false (l, ov) ns).1 (M.pnL false (l, ov) ns).2 ∧ Below base w w' ∧ Kp w w' := by
  obtain ⟨i1, hi1, hy0, hy1, hy2⟩ := info_parts infoU8
  have HP0 : Aside (PenAt w base b l ov) := hP
  have HRi : Hid (∀ w', Below base w w' → Kp w w' → Ri w' a m ns) := hr
  have HLl : Hid (∀ k, (M.pnL false (l, ov) (ns.take k)).1.length ≤ 500000) := hll
  have hnl : ns.length = m := (hr w (Below.refl _ _) (Kp.refl _)).1
  have HNl : Aside (ns.length = m) := hnl
  clear hP hr hnl hll
  go_enter Try.func35, Try.ntmps35
  go_wp2_with fail
  go_loopg [11] m (fun g i wr => ∃ k : Nat, k + g = m ∧ i = .int .i64 k ∧ Aside (PenAt wr base b (M.pnL false (l, ov) (ns.take k)).1 (M.pnL false (l, ov) (ns.take k)).2) ∧ Below base w wr ∧ Kp w wr)
  case atStart => exact ⟨0, by omega, rfl, HP0, Below.refl _ _, Kp.refl _⟩
  case round =>
    obtain ⟨k, hk, rfl, HPk, hbel, hkp⟩ := hrel
    by_cases hkm : k < m
    · have hki : (k : Int) < (m : Int) := by omega
      have hkn : k < ns.length := by rw [HNl.out]; exact hkm
      obtain ⟨ab, ao, rfl, hab, hc⟩ : ∃ ab ao, a = some ⟨ab, ao, none⟩ ∧ ab < wr.heap.size ∧ wr.cell? ⟨ab, ao + k, none⟩ = some (.int .i64 (ns.getD k 0)) := by
        rcases (HRi.out wr hbel hkp).cases with ⟨h0, _⟩ | ⟨ab, ao, e, _, _, hB, hc⟩
        · omega
        · exact ⟨ab, ao, e, hB, hc k hkm⟩
      obtain ⟨n, hn⟩ : ∃ n, n = ns.getD k 0 := ⟨_, rfl⟩
      rw [← hn] at hc
      have hst := M.pnL_take false (l, ov) ns k hkn
      rw [← hn] at hst
      obtain ⟨lk, hlk⟩ : ∃ lk, lk = (M.pnL false (l, ov) (ns.take k)).1 := ⟨_, rfl⟩
      obtain ⟨ok, hok⟩ : ∃ ok, ok = (M.pnL false (l, ov) (ns.take k)).2 := ⟨_, rfl⟩
      have hpk : M.pnL false (l, ov) (ns.take k) = (lk, ok) := by rw [hlk, hok]
      have hlk5 : lk.length ≤ 500000 := by rw [hlk]; exact HLl.out k
      rw [← hlk, ← hok] at HPk
      rw [hpk] at hst
      have HSt : Hid (M.pnL false (l, ov) (ns.take (k + 1)) = M.pnS false (lk, ok) n) := hst
      have HPkk : Hid (M.pnL false (l, ov) (ns.take k) = (lk, ok)) := hpk
      obtain ⟨v, blk, hbb, ob⟩ := HPk.out
      obtain ⟨va, vn, vc, rfl⟩ : ∃ va vn vc, v = .slice va vn vc := by
        rcases ob.2 with ⟨e, _⟩ | ⟨g, c, _, e, _⟩
        · exact ⟨_, _, _, e⟩
        · exact ⟨_, _, _, e⟩
      have c0 : wr.cell? ⟨b, 0, none⟩ = some (.slice va vn vc) := by rw [cell_of_row _ _ _ _ _ _ blk]; rfl
      have c1 : wr.cell? ⟨b, 1, none⟩ = some (.bool ok) := by rw [cell_of_row _ _ _ _ _ _ blk]; rfl
      have f1 : wr.frozen? ⟨b, 1, none⟩ = false := frozen_of_row _ _ _ _ _ blk
      clear hst hpk hlk hok hn
      by_cases hg : 0 ≤ n ∧ n < 256
      · have h1 : decide (n < 0) = false := by simp; omega
        have h2 : decide ((256 : Int) ≤ n) = false := by simp; omega
        cases ok with
        | true =>
          have HE : Hid (M.pnL false (l, ov) ns = (lk, true)) := by
            unfold Hid
            rw [M.pnL_stays false (l, ov) ns k (by rw [HPkk.out]), HPkk.out]
          clear blk ob
          go_wp2
          refine bodyPost_ret (results_none rfl _ _ _) rfl ?_
          exact ⟨⟨_, rfl⟩, by rw [HE.out]; exact HPk.out, hbel, hkp⟩
        | false =>
          have hB : M.pnB false n = true := by unfold M.pnB; simp; omega
          have HN : Hid (M.pnL false (l, ov) (ns.take (k + 1)) = (lk ++ M.pnE false n, false)) := by
            unfold Hid
            rw [HSt.out]
            unfold M.pnS
            rw [if_neg (by simp), if_pos hB]
          obtain ⟨nn, rfl⟩ : ∃ nn : Nat, n = (nn : Int) := ⟨n.toNat, by omega⟩
          have hnn : nn < 256 := by omega
          have HPk2 : Aside (PenAt wr base b lk false) := HPk
          clear blk ob hB hg HPk
          go_wp2_with fail
          go_loopg [8] 1 (fun g i wi => ∃ (pl : Int) (cur : M.By), i = .int .i64 pl ∧ ((pl = 1 ∧ g = 1 ∧ cur ++ [UInt8.ofNat nn] = lk ++ M.pnE false (nn : Int)) ∨ (pl = 0 ∧ g = 0 ∧ cur = lk ++ M.pnE false (nn : Int))) ∧ cur.length + g ≤ 500002 ∧ Aside (PenAt wi base b cur false) ∧ Below base wr wi ∧ Kp wr wi)
          case atStart => exact ⟨1, lk, rfl, Or.inl ⟨rfl, rfl, rfl⟩, by omega, HPk2, Below.refl _ _, Kp.refl _⟩
          case round =>
            obtain ⟨pl, cur, rfl, hor, hcu5, HPc, hbi2, hki2⟩ := hrel
            rcases hor with ⟨rfl, rfl, hcu⟩ | ⟨rfl, rfl, hcu⟩
            · obtain ⟨v2, blk2, hbb2, ob2⟩ := HPc.out
              obtain ⟨wa, wn, wc, rfl⟩ : ∃ wa wn wc, v2 = .slice wa wn wc := by
                rcases ob2.2 with ⟨e, _⟩ | ⟨g, c, _, e, _⟩
                · exact ⟨_, _, _, e⟩
                · exact ⟨_, _, _, e⟩
              have d0 : wr.cell? ⟨b, 0, none⟩ = some (.slice wa wn wc) := by rw [cell_of_row _ _ _ _ _ _ blk2]; rfl
              have hw8 : IntKind.u8.wrap ((nn : Nat) : Int) = ((UInt8.ofNat (nn)).toNat : Int) := by rw [UInt8.toNat_ofNat', IntKind.wrap_u8]; omega
              
              have hz64 : IntKind.i64.wrap ((nn : Nat) : Int) = ((nn : Nat) : Int) := by rw [IntKind.wrap_i64]; omega
              obtain ⟨y, hy⟩ : ∃ y : UInt8, y = UInt8.ofNat (nn) := ⟨_, rfl⟩
              rw [← hy] at hw8
              have hbi : b < wr.heap.size := (Array.getElem?_eq_some_iff.1 blk2).1
              have hbasei : base ≤ wr.heap.size := Nat.le_trans hbb2 (Nat.le_of_lt hbi)
              have HSV : Hid (∀ V, Below wr.heap.size wr V → V.cell? ⟨b, 0, none⟩ = some (.slice wa wn wc)) := fun V hV => (hV.cell (p := ⟨b, 0, none⟩) hbi).trans d0
              have HBd : Hid (Below wr.heap.size wr wr.drew) := (Below.refl _ _).drew
              have pb9 : Hid (Below wr.heap.size wr (wr.alloc (.cells #[.int .u8 (y.toNat : Int)] 5)).drew) := ((Below.refl _ _).alloc (Nat.le_refl _) _).drew
              have HBl : Hid ((wr.alloc (.cells #[.int .u8 (y.toNat : Int)] 5)).drew.heap[b]? = some (.cells #[.slice wa wn wc, .bool false] 41 (0, 0))) := (pb9.out.block b hbi).trans blk2
              have HOb : Hid (OwnB (wr.alloc (.cells #[.int .u8 (y.toNat : Int)] 5)).drew base (.slice wa wn wc) cur) := ownsRow_later ob2 pb9.out
              have HY : Hid (y = UInt8.ofNat (nn)) := hy
              clear blk2 ob2 hy
              go_wp2_with fail
              refine wp_region_till 13 (fun V => V.cell? ⟨b, 0, none⟩ = some (.slice wa wn wc)) (by kernel_rfl) (HSV.out _ HBd.out) (fun hHeld => ?_)
              refine till_go 0 (v := .pointer (some ⟨b, 0, none⟩)) rfl (by decide) (by kernel_rfl) (by kernel_rfl) (by kernel_rfl) (fun _ _ _ h => h) (Or.inl ⟨by rfl, fun V _ => (by go_simp)⟩) hHeld ?_
              try simp only [Act.put]
              refine till_go 1 (v := .pointer (some ⟨b, 0, none⟩)) rfl (by decide) (by kernel_rfl) (by kernel_rfl) (by kernel_rfl) (fun _ _ _ h => h) (Or.inl ⟨by rfl, fun V _ => (by go_simp)⟩) hHeld ?_
              try simp only [Act.put]
              refine till_go 2 (v := .pointer (some ⟨b, 0, none⟩)) rfl (by decide) (by kernel_rfl) (by kernel_rfl) (by kernel_rfl) (fun _ _ _ h => h) (Or.inl ⟨by rfl, fun V _ => (by go_simp)⟩) hHeld ?_
              try simp only [Act.put]
              refine till_go 3 (v := .pointer (some ⟨b, 0, none⟩)) rfl (by decide) (by kernel_rfl) (by kernel_rfl) (by kernel_rfl) (fun _ _ _ h => h) (Or.inl ⟨by rfl, fun V _ => (by go_simp)⟩) hHeld ?_
              try simp only [Act.put]
              refine till_take 4 (v := .slice wa wn wc) rfl (by decide) (by kernel_rfl) (by kernel_rfl) (by kernel_rfl) (by kernel_rfl) (by kernel_rfl) (fun _ _ _ h => h) (Or.inl ⟨by rfl, fun V hV => (by have v0 := hV; go_simp)⟩) hHeld ?_
              try simp only [Act.put]
              refine till_go 5 (v := .int .i64 (nn : Int)) rfl (by decide) (by kernel_rfl) (by kernel_rfl) (by kernel_rfl) (fun _ _ _ h => h) (Or.inl ⟨by rfl, fun V _ => (by go_simp)⟩) hHeld ?_
              try simp only [Act.put]
              refine till_go 6 (v := .int .i64 1) rfl (by decide) (by kernel_rfl) (by kernel_rfl) (by kernel_rfl) (fun _ _ _ h => h) (Or.inl ⟨by rfl, fun V _ => (by go_simp)⟩) hHeld ?_
              try simp only [Act.put]
              refine till_go 7 (v := .int .i64 ((nn : Nat) : Int)) rfl (by decide) (by kernel_rfl) (by kernel_rfl) (by kernel_rfl) (fun _ _ _ h => h) (Or.inl ⟨by rfl, fun V _ => (by go_simp)⟩) hHeld ?_
              try simp only [Act.put]
              refine till_go 8 (v := .int .u8 (y.toNat : Int)) rfl (by decide) (by kernel_rfl) (by kernel_rfl) (by kernel_rfl) (fun _ _ _ h => h) (Or.inl ⟨by rfl, fun V _ => (by go_simp)⟩) hHeld ?_
              try simp only [Act.put]
              refine till_step 9 rfl (by decide) (by kernel_rfl) (fun K hK => ?_)
              go_simp
              refine hK.out _ _ (HSV.out _ pb9.out) (fun hHeld => ?_)
              clear hK K
              refine till_step 10 rfl (by decide) (by kernel_rfl) (fun K hK => ?_)
              refine step_byte rfl _ _ rfl base _ cur rfl HOb.out ⟨wr.heap.size, 0, none⟩ y rfl (by simp [go_sem]) (by omega) (by simp; omega) ?_
              intro v8 w8 o8 g8
              obtain ⟨qa, qn, qc, rfl⟩ : ∃ qa qn qc, v8 = .slice qa qn qc := by
                rcases o8.2 with ⟨e, _⟩ | ⟨g, c, _, e, _⟩
                · exact ⟨_, _, _, e⟩
                · exact ⟨_, _, _, e⟩
              obtain ⟨P1, P2, P3, P4⟩ := PenAt.put (m := [y]) HBl.out hbb2 HOb.out (by simp; omega) g8 o8
              have k8 : w8.cell? ⟨b, 0, none⟩ = some (.slice wa wn wc) := by rw [cell_of_row _ _ _ _ _ _ P2]; rfl
              have f8 : w8.frozen? ⟨b, 0, none⟩ = false := frozen_of_row _ _ _ _ _ P2
              have HP1 : Hid (PenAt (w8.setCell ⟨b, 0, none⟩ (.slice qa qn qc)) base b (cur ++ [y]) false) := P1
              have HP3 : Hid (Below base wr (w8.setCell ⟨b, 0, none⟩ (.slice qa qn qc))) := (pb9.out.mono hbasei).trans P3
              have HP4 : Hid (Kp wr (w8.setCell ⟨b, 0, none⟩ (.slice qa qn qc))) := (Kp.of pb9.out).trans P4
              clear P1 P2 P3 P4 o8 g8
              refine hK.out _ _ k8 (fun hHeld => ?_)
              clear hK K
              refine till_go 11 (v := .pointer (some ⟨b, 0, none⟩)) rfl (by decide) (by kernel_rfl) (by kernel_rfl) (by kernel_rfl) (fun _ _ _ h => h) (Or.inl ⟨by rfl, fun V _ => (by go_simp)⟩) hHeld ?_
              try simp only [Act.put]
              refine till_go 12 (v := .pointer (some ⟨b, 0, none⟩)) rfl (by decide) (by kernel_rfl) (by kernel_rfl) (by kernel_rfl) (fun _ _ _ h => h) (Or.inl ⟨by rfl, fun V _ => (by go_simp)⟩) hHeld ?_
              try simp only [Act.put]
              refine till_last rfl (by kernel_rfl) (by kernel_rfl) (fun K hK => ?_) _
              go_simp
              refine hK.out _ _ ?_
              clear hK K
              go_wp2
              go_roundg 0
              case measure => omega
              case rel => exact ⟨0, cur ++ [y], by go_num, Or.inr ⟨rfl, rfl, by rw [HY.out]; exact hcu⟩, by simp; omega, HP1.out, hbi2.trans HP3.out, hki2.trans HP4.out⟩
            · subst hcu
              go_wp2
              go_roundg (gk - 1)
              case measure => omega
              case rel => exact ⟨k + 1, by omega, by go_num, by rw [HN.out]; exact HPc, hbel.trans hbi2, hkp.trans hki2⟩
            
      · have HE : Hid (M.pnL false (l, ov) ns = (lk, true)) := by
          have e : M.pnS false (lk, ok) n = (lk, true) := by
            unfold M.pnS
            cases ok with
            | true => rfl
            | false =>
              have hB : M.pnB false n = false := by unfold M.pnB; simp; omega
              rw [if_neg (by simp), if_neg (by rw [hB]; simp)]
          unfold Hid
          rw [M.pnL_stays false (l, ov) ns (k + 1) (by rw [HSt.out, e]), HSt.out, e]
        obtain ⟨P1, P2, P3⟩ := PenAt.mark blk hbb ob
        obtain ⟨X, hX⟩ : ∃ X, X = wr.setCell ⟨b, 1, none⟩ (.bool true) := ⟨_, rfl⟩
        rw [← hX] at P1 P2 P3
        have HX : Hid (X = wr.setCell ⟨b, 1, none⟩ (.bool true)) := hX
        have HPX : Hid (PenAt X base b lk true) := P1
        have x1 : X.cell? ⟨b, 1, none⟩ = some (.bool true) := by obtain ⟨u, hu, _⟩ := P1; rw [cell_of_row _ _ _ _ _ _ hu]; rfl
        rw [hX] at x1
        have bX := hbel.trans P2
        have kX := hkp.trans P3
        clear blk ob P1 P2 P3 hX
        by_cases hneg : n < 0
        · have h1 : decide (n < 0) = true := by simp [hneg]
          clear hneg hg
          go_wp2
          rw [← HX.out]
          refine bodyPost_ret (results_none rfl _ _ _) rfl ?_
          exact ⟨⟨_, rfl⟩, by rw [HE.out]; exact HPX.out, bX, kX⟩
        · have h1 : decide (n < 0) = false := by simp; omega
          have h2 : decide ((256 : Int) ≤ n) = true := by simp; omega
          clear hneg hg
          go_wp2
          rw [← HX.out]
          refine bodyPost_ret (results_none rfl _ _ _) rfl ?_
          exact ⟨⟨_, rfl⟩, by rw [HE.out]; exact HPX.out, bX, kX⟩
    · obtain rfl : k = m := by omega
      have hkk2 : decide ((k : Int) < (k : Int)) = false := by simp
      have e1 : ns.take k = ns := List.take_of_length_le (by rw [HNl.out]; exact Nat.le_refl _)
      have HPe : Hid (PenAt wr base b (M.pnL false (l, ov) ns).1 (M.pnL false (l, ov) ns).2) := by have := HPk.out; rw [e1] at this; exact this
      clear e1
      go_wp2
      go_end0
      exact ⟨⟨_, rfl⟩, HPe.out, hbel, hkp⟩

set_option maxRecDepth 100000 in
set_option maxHeartbeats 8000000 in
theorem pput2_any (b base : Nat) (l : M.By) (ov : Bool) (a : Option Addr) (m cap : Nat) (ns : List Int) (w : World) (hP : PenAt w base b l ov) (hr : ∀ w', Below base w w' → Kp w w' → Ri w' a m ns) (hm : m ≤ 1000) (hll : ∀ k, (M.pnL true (l, ov) (ns.take k)).1.length ≤ 500000) :
    Calls Try.prog 35 #[.pointer (some ⟨b, 0, none⟩), .int .i64 65536, .slice a m cap] w fun e w' => (∃ v, e = .returned v) ∧ PenAt w' base b (M.pnL true (l, ov) ns).1 (M.pnL true (l, ov) ns).2 ∧ Below base w w' ∧ Kp w w' := by
  obtain ⟨i1, hi1, hy0, hy1, hy2⟩ := info_parts infoU8
  have HP0 : Aside (PenAt w base b l ov) := hP
  have HRi : Hid (∀ w', Below base w w' → Kp w w' → Ri w' a m ns) := hr
  have HLl : Hid (∀ k, (M.pnL true (l, ov) (ns.take k)).1.length ≤ 500000) := hll
  have hnl : ns.length = m := (hr w (Below.refl _ _) (Kp.refl _)).1
  have HNl : Aside (ns.length = m) := hnl
  clear hP hr hnl hll
  go_enter Try.func35, Try.ntmps35
  go_wp2_with fail
  go_loopg [11] m (fun g i wr => ∃ k : Nat, k + g = m ∧ i = .int .i64 k ∧ Aside (PenAt wr base b (M.pnL true (l, ov) (ns.take k)).1 (M.pnL true (l, ov) (ns.take k)).2) ∧ Below base w wr ∧ Kp w wr)
  case atStart => exact ⟨0, by omega, rfl, HP0, Below.refl _ _, Kp.refl _⟩
  case round =>
    obtain ⟨k, hk, rfl, HPk, hbel, hkp⟩ := hrel
    by_cases hkm : k < m
    · have hki : (k : Int) < (m : Int) := by omega
      have hkn : k < ns.length := by rw [HNl.out]; exact hkm
      obtain ⟨ab, ao, rfl, hab, hc⟩ : ∃ ab ao, a = some ⟨ab, ao, none⟩ ∧ ab < wr.heap.size ∧ wr.cell? ⟨ab, ao + k, none⟩ = some (.int .i64 (ns.getD k 0)) := by
        rcases (HRi.out wr hbel hkp).cases with ⟨h0, _⟩ | ⟨ab, ao, e, _, _, hB, hc⟩
        · omega
        · exact ⟨ab, ao, e, hB, hc k hkm⟩
      obtain ⟨n, hn⟩ : ∃ n, n = ns.getD k 0 := ⟨_, rfl⟩
      rw [← hn] at hc
      have hst := M.pnL_take true (l, ov) ns k hkn
      rw [← hn] at hst
      obtain ⟨lk, hlk⟩ : ∃ lk, lk = (M.pnL true (l, ov) (ns.take k)).1 := ⟨_, rfl⟩
      obtain ⟨ok, hok⟩ : ∃ ok, ok = (M.pnL true (l, ov) (ns.take k)).2 := ⟨_, rfl⟩
      have hpk : M.pnL true (l, ov) (ns.take k) = (lk, ok) := by rw [hlk, hok]
      have hlk5 : lk.length ≤ 500000 := by rw [hlk]; exact HLl.out k
      rw [← hlk, ← hok] at HPk
      rw [hpk] at hst
      have HSt : Hid (M.pnL true (l, ov) (ns.take (k + 1)) = M.pnS true (lk, ok) n) := hst
      have HPkk : Hid (M.pnL true (l, ov) (ns.take k) = (lk, ok)) := hpk
      obtain ⟨v, blk, hbb, ob⟩ := HPk.out
      obtain ⟨va, vn, vc, rfl⟩ : ∃ va vn vc, v = .slice va vn vc := by
        rcases ob.2 with ⟨e, _⟩ | ⟨g, c, _, e, _⟩
        · exact ⟨_, _, _, e⟩
        · exact ⟨_, _, _, e⟩
      have c0 : wr.cell? ⟨b, 0, none⟩ = some (.slice va vn vc) := by rw [cell_of_row _ _ _ _ _ _ blk]; rfl
      have c1 : wr.cell? ⟨b, 1, none⟩ = some (.bool ok) := by rw [cell_of_row _ _ _ _ _ _ blk]; rfl
      have f1 : wr.frozen? ⟨b, 1, none⟩ = false := frozen_of_row _ _ _ _ _ blk
      clear hst hpk hlk hok hn
      by_cases hg : 0 ≤ n ∧ n < 65536
      · have h1 : decide (n < 0) = false := by simp; omega
        have h2 : decide ((65536 : Int) ≤ n) = false := by simp; omega
        cases ok with
        | true =>
          have HE : Hid (M.pnL true (l, ov) ns = (lk, true)) := by
            unfold Hid
            rw [M.pnL_stays true (l, ov) ns k (by rw [HPkk.out]), HPkk.out]
          clear blk ob
          go_wp2
          refine bodyPost_ret (results_none rfl _ _ _) rfl ?_
          exact ⟨⟨_, rfl⟩, by rw [HE.out]; exact HPk.out, hbel, hkp⟩
        | false =>
          have hB : M.pnB true n = true := by unfold M.pnB; simp; omega
          have HN : Hid (M.pnL true (l, ov) (ns.take (k + 1)) = (lk ++ M.pnE true n, false)) := by
            unfold Hid
            rw [HSt.out]
            unfold M.pnS
            rw [if_neg (by simp), if_pos hB]
          obtain ⟨nn, rfl⟩ : ∃ nn : Nat, n = (nn : Int) := ⟨n.toNat, by omega⟩
          have hnn : nn < 65536 := by omega
          have HPk2 : Aside (PenAt wr base b lk false) := HPk
          clear blk ob hB hg HPk
          go_wp2_with fail
          go_loopg [8] 2 (fun g i wi => ∃ (pl : Int) (cur : M.By), i = .int .i64 pl ∧ ((pl = 256 ∧ g = 2 ∧ cur = lk) ∨ (pl = 1 ∧ g = 1 ∧ cur ++ [UInt8.ofNat nn] = lk ++ M.pnE true (nn : Int)) ∨ (pl = 0 ∧ g = 0 ∧ cur = lk ++ M.pnE true (nn : Int))) ∧ cur.length + g ≤ 500002 ∧ Aside (PenAt wi base b cur false) ∧ Below base wr wi ∧ Kp wr wi)
          case atStart => exact ⟨256, lk, rfl, Or.inl ⟨rfl, rfl, rfl⟩, by omega, HPk2, Below.refl _ _, Kp.refl _⟩
          case round =>
            obtain ⟨pl, cur, rfl, hor, hcu5, HPc, hbi2, hki2⟩ := hrel
            rcases hor with ⟨rfl, rfl, hcu⟩ | ⟨rfl, rfl, hcu⟩ | ⟨rfl, rfl, hcu⟩
            · obtain ⟨z, hz⟩ : ∃ z : Nat, z = nn / 256 := ⟨_, rfl⟩
              have hzl : z < 256 := by omega
              have HZ : Hid (z = nn / 256) := hz
              obtain ⟨v2, blk2, hbb2, ob2⟩ := HPc.out
              obtain ⟨wa, wn, wc, rfl⟩ : ∃ wa wn wc, v2 = .slice wa wn wc := by
                rcases ob2.2 with ⟨e, _⟩ | ⟨g, c, _, e, _⟩
                · exact ⟨_, _, _, e⟩
                · exact ⟨_, _, _, e⟩
              have d0 : wr.cell? ⟨b, 0, none⟩ = some (.slice wa wn wc) := by rw [cell_of_row _ _ _ _ _ _ blk2]; rfl
              have hw8 : IntKind.u8.wrap ((z : Nat) : Int) = ((UInt8.ofNat (z)).toNat : Int) := by rw [UInt8.toNat_ofNat', IntKind.wrap_u8]; omega
              have hq : (nn : Int) / 256 = ((z : Nat) : Int) := by rw [hz]; omega
              have hz64 : IntKind.i64.wrap ((z : Nat) : Int) = ((z : Nat) : Int) := by rw [IntKind.wrap_i64]; omega
              obtain ⟨y, hy⟩ : ∃ y : UInt8, y = UInt8.ofNat (z) := ⟨_, rfl⟩
              rw [← hy] at hw8
              have hbi : b < wr.heap.size := (Array.getElem?_eq_some_iff.1 blk2).1
              have hbasei : base ≤ wr.heap.size := Nat.le_trans hbb2 (Nat.le_of_lt hbi)
              have HSV : Hid (∀ V, Below wr.heap.size wr V → V.cell? ⟨b, 0, none⟩ = some (.slice wa wn wc)) := fun V hV => (hV.cell (p := ⟨b, 0, none⟩) hbi).trans d0
              have HBd : Hid (Below wr.heap.size wr wr.drew) := (Below.refl _ _).drew
              have pb9 : Hid (Below wr.heap.size wr (wr.alloc (.cells #[.int .u8 (y.toNat : Int)] 5)).drew) := ((Below.refl _ _).alloc (Nat.le_refl _) _).drew
              have HBl : Hid ((wr.alloc (.cells #[.int .u8 (y.toNat : Int)] 5)).drew.heap[b]? = some (.cells #[.slice wa wn wc, .bool false] 41 (0, 0))) := (pb9.out.block b hbi).trans blk2
              have HOb : Hid (OwnB (wr.alloc (.cells #[.int .u8 (y.toNat : Int)] 5)).drew base (.slice wa wn wc) cur) := ownsRow_later ob2 pb9.out
              have HY : Hid (y = UInt8.ofNat (z)) := hy
              clear blk2 ob2 hy hz
              go_wp2_with fail
              refine wp_region_till 13 (fun V => V.cell? ⟨b, 0, none⟩ = some (.slice wa wn wc)) (by kernel_rfl) (HSV.out _ HBd.out) (fun hHeld => ?_)
              refine till_go 0 (v := .pointer (some ⟨b, 0, none⟩)) rfl (by decide) (by kernel_rfl) (by kernel_rfl) (by kernel_rfl) (fun _ _ _ h => h) (Or.inl ⟨by rfl, fun V _ => (by go_simp)⟩) hHeld ?_
              try simp only [Act.put]
              refine till_go 1 (v := .pointer (some ⟨b, 0, none⟩)) rfl (by decide) (by kernel_rfl) (by kernel_rfl) (by kernel_rfl) (fun _ _ _ h => h) (Or.inl ⟨by rfl, fun V _ => (by go_simp)⟩) hHeld ?_
              try simp only [Act.put]
              refine till_go 2 (v := .pointer (some ⟨b, 0, none⟩)) rfl (by decide) (by kernel_rfl) (by kernel_rfl) (by kernel_rfl) (fun _ _ _ h => h) (Or.inl ⟨by rfl, fun V _ => (by go_simp)⟩) hHeld ?_
              try simp only [Act.put]
              refine till_go 3 (v := .pointer (some ⟨b, 0, none⟩)) rfl (by decide) (by kernel_rfl) (by kernel_rfl) (by kernel_rfl) (fun _ _ _ h => h) (Or.inl ⟨by rfl, fun V _ => (by go_simp)⟩) hHeld ?_
              try simp only [Act.put]
              refine till_take 4 (v := .slice wa wn wc) rfl (by decide) (by kernel_rfl) (by kernel_rfl) (by kernel_rfl) (by kernel_rfl) (by kernel_rfl) (fun _ _ _ h => h) (Or.inl ⟨by rfl, fun V hV => (by have v0 := hV; go_simp)⟩) hHeld ?_
              try simp only [Act.put]
              refine till_go 5 (v := .int .i64 (nn : Int)) rfl (by decide) (by kernel_rfl) (by kernel_rfl) (by kernel_rfl) (fun _ _ _ h => h) (Or.inl ⟨by rfl, fun V _ => (by go_simp)⟩) hHeld ?_
              try simp only [Act.put]
              refine till_go 6 (v := .int .i64 256) rfl (by decide) (by kernel_rfl) (by kernel_rfl) (by kernel_rfl) (fun _ _ _ h => h) (Or.inl ⟨by rfl, fun V _ => (by go_simp)⟩) hHeld ?_
              try simp only [Act.put]
              refine till_go 7 (v := .int .i64 ((z : Nat) : Int)) rfl (by decide) (by kernel_rfl) (by kernel_rfl) (by kernel_rfl) (fun _ _ _ h => h) (Or.inl ⟨by rfl, fun V _ => (by go_simp)⟩) hHeld ?_
              try simp only [Act.put]
              refine till_go 8 (v := .int .u8 (y.toNat : Int)) rfl (by decide) (by kernel_rfl) (by kernel_rfl) (by kernel_rfl) (fun _ _ _ h => h) (Or.inl ⟨by rfl, fun V _ => (by go_simp)⟩) hHeld ?_
              try simp only [Act.put]
              refine till_step 9 rfl (by decide) (by kernel_rfl) (fun K hK => ?_)
              go_simp
              refine hK.out _ _ (HSV.out _ pb9.out) (fun hHeld => ?_)
              clear hK K
              refine till_step 10 rfl (by decide) (by kernel_rfl) (fun K hK => ?_)
              refine step_byte rfl _ _ rfl base _ cur rfl HOb.out ⟨wr.heap.size, 0, none⟩ y rfl (by simp [go_sem]) (by omega) (by simp; omega) ?_
              intro v8 w8 o8 g8
              obtain ⟨qa, qn, qc, rfl⟩ : ∃ qa qn qc, v8 = .slice qa qn qc := by
                rcases o8.2 with ⟨e, _⟩ | ⟨g, c, _, e, _⟩
                · exact ⟨_, _, _, e⟩
                · exact ⟨_, _, _, e⟩
              obtain ⟨P1, P2, P3, P4⟩ := PenAt.put (m := [y]) HBl.out hbb2 HOb.out (by simp; omega) g8 o8
              have k8 : w8.cell? ⟨b, 0, none⟩ = some (.slice wa wn wc) := by rw [cell_of_row _ _ _ _ _ _ P2]; rfl
              have f8 : w8.frozen? ⟨b, 0, none⟩ = false := frozen_of_row _ _ _ _ _ P2
              have HP1 : Hid (PenAt (w8.setCell ⟨b, 0, none⟩ (.slice qa qn qc)) base b (cur ++ [y]) false) := P1
              have HP3 : Hid (Below base wr (w8.setCell ⟨b, 0, none⟩ (.slice qa qn qc))) := (pb9.out.mono hbasei).trans P3
              have HP4 : Hid (Kp wr (w8.setCell ⟨b, 0, none⟩ (.slice qa qn qc))) := (Kp.of pb9.out).trans P4
              clear P1 P2 P3 P4 o8 g8
              refine hK.out _ _ k8 (fun hHeld => ?_)
              clear hK K
              refine till_go 11 (v := .pointer (some ⟨b, 0, none⟩)) rfl (by decide) (by kernel_rfl) (by kernel_rfl) (by kernel_rfl) (fun _ _ _ h => h) (Or.inl ⟨by rfl, fun V _ => (by go_simp)⟩) hHeld ?_
              try simp only [Act.put]
              refine till_go 12 (v := .pointer (some ⟨b, 0, none⟩)) rfl (by decide) (by kernel_rfl) (by kernel_rfl) (by kernel_rfl) (fun _ _ _ h => h) (Or.inl ⟨by rfl, fun V _ => (by go_simp)⟩) hHeld ?_
              try simp only [Act.put]
              refine till_last rfl (by kernel_rfl) (by kernel_rfl) (fun K hK => ?_) _
              go_simp
              refine hK.out _ _ ?_
              clear hK K
              go_wp2
              go_roundg 1
              case measure => omega
              case rel => exact ⟨1, cur ++ [y], by go_num, Or.inr (Or.inl ⟨rfl, rfl, by rw [hcu, HY.out, HZ.out]; unfold M.pnE M.b2; simp [M.byte_mod]⟩), by simp; omega, HP1.out, hbi2.trans HP3.out, hki2.trans HP4.out⟩
            
            · obtain ⟨v2, blk2, hbb2, ob2⟩ := HPc.out
              obtain ⟨wa, wn, wc, rfl⟩ : ∃ wa wn wc, v2 = .slice wa wn wc := by
                rcases ob2.2 with ⟨e, _⟩ | ⟨g, c, _, e, _⟩
                · exact ⟨_, _, _, e⟩
                · exact ⟨_, _, _, e⟩
              have d0 : wr.cell? ⟨b, 0, none⟩ = some (.slice wa wn wc) := by rw [cell_of_row _ _ _ _ _ _ blk2]; rfl
              have hw8 : IntKind.u8.wrap ((nn : Nat) : Int) = ((UInt8.ofNat (nn)).toNat : Int) := by rw [UInt8.toNat_ofNat', IntKind.wrap_u8]; omega
              
              have hz64 : IntKind.i64.wrap ((nn : Nat) : Int) = ((nn : Nat) : Int) := by rw [IntKind.wrap_i64]; omega
              obtain ⟨y, hy⟩ : ∃ y : UInt8, y = UInt8.ofNat (nn) := ⟨_, rfl⟩
              rw [← hy] at hw8
              have hbi : b < wr.heap.size := (Array.getElem?_eq_some_iff.1 blk2).1
              have hbasei : base ≤ wr.heap.size := Nat.le_trans hbb2 (Nat.le_of_lt hbi)
              have HSV : Hid (∀ V, Below wr.heap.size wr V → V.cell? ⟨b, 0, none⟩ = some (.slice wa wn wc)) := fun V hV => (hV.cell (p := ⟨b, 0, none⟩) hbi).trans d0
              have HBd : Hid (Below wr.heap.size wr wr.drew) := (Below.refl _ _).drew
              have pb9 : Hid (Below wr.heap.size wr (wr.alloc (.cells #[.int .u8 (y.toNat : Int)] 5)).drew) := ((Below.refl _ _).alloc (Nat.le_refl _) _).drew
              have HBl : Hid ((wr.alloc (.cells #[.int .u8 (y.toNat : Int)] 5)).drew.heap[b]? = some (.cells #[.slice wa wn wc, .bool false] 41 (0, 0))) := (pb9.out.block b hbi).trans blk2
              have HOb : Hid (OwnB (wr.alloc (.cells #[.int .u8 (y.toNat : Int)] 5)).drew base (.slice wa wn wc) cur) := ownsRow_later ob2 pb9.out
              have HY : Hid (y = UInt8.ofNat (nn)) := hy
              clear blk2 ob2 hy
              go_wp2_with fail
              refine wp_region_till 13 (fun V => V.cell? ⟨b, 0, none⟩ = some (.slice wa wn wc)) (by kernel_rfl) (HSV.out _ HBd.out) (fun hHeld => ?_)
              refine till_go 0 (v := .pointer (some ⟨b, 0, none⟩)) rfl (by decide) (by kernel_rfl) (by kernel_rfl) (by kernel_rfl) (fun _ _ _ h => h) (Or.inl ⟨by rfl, fun V _ => (by go_simp)⟩) hHeld ?_
              try simp only [Act.put]
              refine till_go 1 (v := .pointer (some ⟨b, 0, none⟩)) rfl (by decide) (by kernel_rfl) (by kernel_rfl) (by kernel_rfl) (fun _ _ _ h => h) (Or.inl ⟨by rfl, fun V _ => (by go_simp)⟩) hHeld ?_
              try simp only [Act.put]
              refine till_go 2 (v := .pointer (some ⟨b, 0, none⟩)) rfl (by decide) (by kernel_rfl) (by kernel_rfl) (by kernel_rfl) (fun _ _ _ h => h) (Or.inl ⟨by rfl, fun V _ => (by go_simp)⟩) hHeld ?_
              try simp only [Act.put]
              refine till_go 3 (v := .pointer (some ⟨b, 0, none⟩)) rfl (by decide) (by kernel_rfl) (by kernel_rfl) (by kernel_rfl) (fun _ _ _ h => h) (Or.inl ⟨by rfl, fun V _ => (by go_simp)⟩) hHeld ?_
              try simp only [Act.put]
              refine till_take 4 (v := .slice wa wn wc) rfl (by decide) (by kernel_rfl) (by kernel_rfl) (by kernel_rfl) (by kernel_rfl) (by kernel_rfl) (fun _ _ _ h => h) (Or.inl ⟨by rfl, fun V hV => (by have v0 := hV; go_simp)⟩) hHeld ?_
              try simp only [Act.put]
              refine till_go 5 (v := .int .i64 (nn : Int)) rfl (by decide) (by kernel_rfl) (by kernel_rfl) (by kernel_rfl) (fun _ _ _ h => h) (Or.inl ⟨by rfl, fun V _ => (by go_simp)⟩) hHeld ?_
              try simp only [Act.put]
              refine till_go 6 (v := .int .i64 1) rfl (by decide) (by kernel_rfl) (by kernel_rfl) (by kernel_rfl) (fun _ _ _ h => h) (Or.inl ⟨by rfl, fun V _ => (by go_simp)⟩) hHeld ?_
              try simp only [Act.put]
              refine till_go 7 (v := .int .i64 ((nn : Nat) : Int)) rfl (by decide) (by kernel_rfl) (by kernel_rfl) (by kernel_rfl) (fun _ _ _ h => h) (Or.inl ⟨by rfl, fun V _ => (by go_simp)⟩) hHeld ?_
              try simp only [Act.put]
              refine till_go 8 (v := .int .u8 (y.toNat : Int)) rfl (by decide) (by kernel_rfl) (by kernel_rfl) (by kernel_rfl) (fun _ _ _ h => h) (Or.inl ⟨by rfl, fun V _ => (by go_simp)⟩) hHeld ?_
              try simp only [Act.put]
              refine till_step 9 rfl (by decide) (by kernel_rfl) (fun K hK => ?_)
              go_simp
              refine hK.out _ _ (HSV.out _ pb9.out) (fun hHeld => ?_)
              clear hK K
              refine till_step 10 rfl (by decide) (by kernel_rfl) (fun K hK => ?_)
              refine step_byte rfl _ _ rfl base _ cur rfl HOb.out ⟨wr.heap.size, 0, none⟩ y rfl (by simp [go_sem]) (by omega) (by simp; omega) ?_
              intro v8 w8 o8 g8
              obtain ⟨qa, qn, qc, rfl⟩ : ∃ qa qn qc, v8 = .slice qa qn qc := by
                rcases o8.2 with ⟨e, _⟩ | ⟨g, c, _, e, _⟩
                · exact ⟨_, _, _, e⟩
                · exact ⟨_, _, _, e⟩
              obtain ⟨P1, P2, P3, P4⟩ := PenAt.put (m := [y]) HBl.out hbb2 HOb.out (by simp; omega) g8 o8
              have k8 : w8.cell? ⟨b, 0, none⟩ = some (.slice wa wn wc) := by rw [cell_of_row _ _ _ _ _ _ P2]; rfl
              have f8 : w8.frozen? ⟨b, 0, none⟩ = false := frozen_of_row _ _ _ _ _ P2
              have HP1 : Hid (PenAt (w8.setCell ⟨b, 0, none⟩ (.slice qa qn qc)) base b (cur ++ [y]) false) := P1
              have HP3 : Hid (Below base wr (w8.setCell ⟨b, 0, none⟩ (.slice qa qn qc))) := (pb9.out.mono hbasei).trans P3
              have HP4 : Hid (Kp wr (w8.setCell ⟨b, 0, none⟩ (.slice qa qn qc))) := (Kp.of pb9.out).trans P4
              clear P1 P2 P3 P4 o8 g8
              refine hK.out _ _ k8 (fun hHeld => ?_)
              clear hK K
              refine till_go 11 (v := .pointer (some ⟨b, 0, none⟩)) rfl (by decide) (by kernel_rfl) (by kernel_rfl) (by kernel_rfl) (fun _ _ _ h => h) (Or.inl ⟨by rfl, fun V _ => (by go_simp)⟩) hHeld ?_
              try simp only [Act.put]
              refine till_go 12 (v := .pointer (some ⟨b, 0, none⟩)) rfl (by decide) (by kernel_rfl) (by kernel_rfl) (by kernel_rfl) (fun _ _ _ h => h) (Or.inl ⟨by rfl, fun V _ => (by go_simp)⟩) hHeld ?_
              try simp only [Act.put]
              refine till_last rfl (by kernel_rfl) (by kernel_rfl) (fun K hK => ?_) _
              go_simp
              refine hK.out _ _ ?_
              clear hK K
              go_wp2
              go_roundg 0
              case measure => omega
              case rel => exact ⟨0, cur ++ [y], by go_num, Or.inr (Or.inr ⟨rfl, rfl, by rw [HY.out]; exact hcu⟩), by simp; omega, HP1.out, hbi2.trans HP3.out, hki2.trans HP4.out⟩
            · subst hcu
              go_wp2
              go_roundg (gk - 1)
              case measure => omega
              case rel => exact ⟨k + 1, by omega, by go_num, by rw [HN.out]; exact HPc, hbel.trans hbi2, hkp.trans hki2⟩
            
      · have HE : Hid (M.pnL true (l, ov) ns = (lk, true)) := by
          have e : M.pnS true (lk, ok) n = (lk, true) := by
            unfold M.pnS
            cases ok with
            | true => rfl
            | false =>
              have hB : M.pnB true n = false := by unfold M.pnB; simp; omega
              rw [if_neg (by simp), if_neg (by rw [hB]; simp)]
          unfold Hid
          rw [M.pnL_stays true (l, ov) ns (k + 1) (by rw [HSt.out, e]), HSt.out, e]
        obtain ⟨P1, P2, P3⟩ := PenAt.mark blk hbb ob
        obtain ⟨X, hX⟩ : ∃ X, X = wr.setCell ⟨b, 1, none⟩ (.bool true) := ⟨_, rfl⟩
        rw [← hX] at P1 P2 P3
        have HX : Hid (X = wr.setCell ⟨b, 1, none⟩ (.bool true)) := hX
        have HPX : Hid (PenAt X base b lk true) := P1
        have x1 : X.cell? ⟨b, 1, none⟩ = some (.bool true) := by obtain ⟨u, hu, _⟩ := P1; rw [cell_of_row _ _ _ _ _ _ hu]; rfl
        rw [hX] at x1
        have bX := hbel.trans P2
        have kX := hkp.trans P3
        clear blk ob P1 P2 P3 hX
        by_cases hneg : n < 0
        · have h1 : decide (n < 0) = true := by simp [hneg]
          clear hneg hg
          go_wp2
          rw [← HX.out]
          refine bodyPost_ret (results_none rfl _ _ _) rfl ?_
          exact ⟨⟨_, rfl⟩, by rw [HE.out]; exact HPX.out, bX, kX⟩
        · have h1 : decide (n < 0) = false := by simp; omega
          have h2 : decide ((65536 : Int) ≤ n) = true := by simp; omega
          clear hneg hg
          go_wp2
          rw [← HX.out]
          refine bodyPost_ret (results_none rfl _ _ _) rfl ?_
          exact ⟨⟨_, rfl⟩, by rw [HE.out]; exact HPX.out, bX, kX⟩
    · obtain rfl : k = m := by omega
      have hkk2 : decide ((k : Int) < (k : Int)) = false := by simp
      have e1 : ns.take k = ns := List.take_of_length_le (by rw [HNl.out]; exact Nat.le_refl _)
      have HPe : Hid (PenAt wr base b (M.pnL true (l, ov) ns).1 (M.pnL true (l, ov) ns).2) := by have := HPk.out; rw [e1] at this; exact this
      clear e1
      go_wp2
      go_end0
      exact ⟨⟨_, rfl⟩, HPe.out, hbel, hkp⟩

end Go.Proofs.Ytcgpgflnihjpiag
