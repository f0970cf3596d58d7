/- A pen: numbers are put as bytes. -/
import Derived.Test.YtcgpgflnihjpiagGreatBLogMore03
import Derived.Deep.AppendLies
import Derived.Lib.AppendStr
import Derived.Laws.IdiomStrings
import Derived.Lib.BufferRead
import Derived.Test.YtcgpgflnihjpiagGreatBLogMore01
import Derived.Test.YtcgpgflnihjpiagGreatBLogMore02
import Derived.WalkLawsBesides
import Derived.Laws.Panics
namespace Go.Proofs.YtcgpgflnihjpiagGreat
open Go.RowKit

def b8 (l : M.By) : List Value := l.map fun x => .int .u8 (x.toNat : Int)
theorem b8_append (a b : M.By) : b8 (a ++ b) = b8 a ++ b8 b := by simp [b8]
def OwnB (w : World) (base : Nat) (v : Value) (l : M.By) : Prop := w.ownsRow base 5 1 v l.length (b8 l)
/-- A pen lies in the block b. -/
def PenAt (w : World) (base b : Nat) (l : M.By) (ov : Bool) : Prop := ∃ v, w.heap[b]? = some (.cells #[v, .bool ov] 69 (0, 0)) ∧ base ≤ b ∧ OwnB w base v l
theorem PenAt.lt {w : World} {base b : Nat} {l : M.By} {ov : Bool} (h : PenAt w base b l ov) : b < w.heap.size := by
  obtain ⟨v, h1, _⟩ := h
  exact (Array.getElem?_eq_some_iff.1 h1).1
theorem PenAt.later {w w' : World} {base b : Nat} {l : M.By} {ov : Bool} (h : PenAt w base b l ov) (hb : Below w.heap.size w w') : PenAt w' base b l ov := by
  have hlt := h.lt
  obtain ⟨v, h1, h2, h3⟩ := h
  exact ⟨v, (hb.block b hlt).trans h1, h2, ownsRow_later h3 hb⟩
/-- Blocks of other kinds than a pen's stay. -/
def Kp (w w' : World) : Prop := ∀ (k : Nat) (cur : Array Value) (t : TypeId), t ≠ 69 → t ≠ 5 → w.heap[k]? = some (.cells cur t (0, 0)) → w'.heap[k]? = some (.cells cur t (0, 0))
theorem Kp.refl (w : World) : Kp w w := fun _ _ _ _ _ h => h
theorem Kp.trans {a b c : World} (h : Kp a b) (k : Kp b c) : Kp a c := fun n cur t h1 h2 e => k n cur t h1 h2 (h n cur t h1 h2 e)
theorem Kp.of {w w' : World} (h : Below w.heap.size w w') : Kp w w' := fun k _ _ _ _ e => (h.block k (Array.getElem?_eq_some_iff.1 e).1).trans e
theorem Kp.grown {w w' : World} {r : Option Nat} (h : w.grownBy w' r) (hr : ∀ k, r = some k → ∃ cur t, w.heap[k]? = some (.cells cur t (0, 0)) ∧ (t = 69 ∨ t = 5)) : Kp w w' := fun k cur t h1 h2 e => by
  rw [← e]
  refine h.block k (Array.getElem?_eq_some_iff.1 e).1 fun he => ?_
  obtain ⟨cur', t', hc, ht⟩ := hr k he.symm
  rw [hc] at e
  simp at e
  rcases ht with ht | ht
  · exact h1 (e.2 ▸ ht)
  · exact h2 (e.2 ▸ ht)
theorem ownB_block {w : World} {base : Nat} {v : Value} {l : M.By} (h : OwnB w base v l) : ∀ k, v.ownBlock = some k → ∃ cur t, w.heap[k]? = some (.cells cur t (0, 0)) ∧ (t = 69 ∨ t = 5) := by
  intro k e
  rcases h.2 with ⟨rfl, _⟩ | ⟨g, cap, cur, rfl, _, hg, _⟩
  · simp [Value.ownBlock] at e
  · obtain rfl : g = k := by simpa [Value.ownBlock] using e
    exact ⟨cur, _, hg, Or.inr rfl⟩
theorem infoU8 : (Tryz.prog.info? 5).map (fun i => (i.zero, i.size, i.bytes)) = some (some (.int .u8 0), 1, 1) := by kernel_rfl
/-- More bytes are put. -/
theorem PenAt.put {w w1 : World} {base b : Nat} {l m : M.By} {ov : Bool} {v v' : Value} (h1 : w.heap[b]? = some (.cells #[v, .bool ov] 69 (0, 0))) (h2 : base ≤ b) (h3 : OwnB w base v l) (hbw : base ≤ w.heap.size) (hg : w.grownBy w1 v.ownBlock) (h4 : OwnB w1 base v' (l ++ m)) :
    PenAt (w1.setCell ⟨b, 0, none⟩ v') base b (l ++ m) ov ∧ w1.heap[b]? = some (.cells #[v, .bool ov] 69 (0, 0)) ∧ Below base w (w1.setCell ⟨b, 0, none⟩ v') ∧ Kp w (w1.setCell ⟨b, 0, none⟩ v') := by
  have hlt := (Array.getElem?_eq_some_iff.1 h1).1
  have hne : v.ownBlock ≠ some b := fun e => by
    rcases h3.2 with ⟨rfl, _⟩ | ⟨g, cap, cur, rfl, _, hgb, _⟩
    · simp [Value.ownBlock] at e
    · obtain rfl : g = b := by simpa [Value.ownBlock] using e
      rw [h1] at hgb
      simp at hgb
  have hb1 : w1.heap[b]? = some (.cells #[v, .bool ov] 69 (0, 0)) := (hg.block b hlt (fun e => hne e.symm)).trans h1
  have g2 := grownBy_set w1 ⟨b, 0, none⟩ v'
  refine ⟨⟨v', ?_, h2, ownsRow_elsewhere h4 g2 fun r e cur he => ?_⟩, hb1, ((Below.refl _ _).grown hg hbw (fun k e => (World.ownsRow.lt h3 k e).1)).setCell (p := ⟨b, 0, none⟩) h2 _, (Kp.grown hg (ownB_block h3)).trans (Kp.grown g2 fun k e => ?_)⟩
  · rw [heap_setCell_same _ _ _ _ _ _ hb1]; rfl
  · cases e
    rw [show w1.heap[b]? = _ from hb1] at he
    simp at he
  · cases e
    exact ⟨_, _, hb1, Or.inl rfl⟩
/-- A number could not stand. -/
theorem PenAt.mark {w : World} {base b : Nat} {l : M.By} {ov : Bool} {v : Value} (h1 : w.heap[b]? = some (.cells #[v, .bool ov] 69 (0, 0))) (h2 : base ≤ b) (h3 : OwnB w base v l) :
    PenAt (w.setCell ⟨b, 1, none⟩ (.bool true)) base b l true ∧ Below base w (w.setCell ⟨b, 1, none⟩ (.bool true)) ∧ Kp w (w.setCell ⟨b, 1, none⟩ (.bool true)) := by
  have g2 := grownBy_set w ⟨b, 1, none⟩ (.bool true)
  refine ⟨⟨v, ?_, h2, ownsRow_elsewhere h3 g2 fun r e cur he => ?_⟩, (Below.refl _ _).setCell (p := ⟨b, 1, none⟩) h2 _, Kp.grown g2 fun k e => ?_⟩
  · rw [heap_setCell_same _ _ _ _ _ _ h1]; rfl
  · cases e
    rw [show w.heap[b]? = _ from h1] at he
    simp at he
  · cases e
    exact ⟨_, _, h1, Or.inl rfl⟩

theorem step_byte {w : World} {ops : Array Oper} {o : Oper} {a : Act} {K : Act → World → Prop} {Q : Exit → Act → World → Prop} {E : Prop} (hgd : o.guard = none) (s x : Operand)
    (ho : o.op = .call { callee := .builtin .append, args := #[s, x], argTypes := #[67, 67] })
    (base : Nat) (v : Value) (l : M.By) (hs : a.eval s = v) (hown : OwnB w base v l) (ad : Addr) (y : UInt8) (hx : a.eval x = .slice (some ad) 1 1) (hc : w.cell? (ad.add 0) = some (.int .u8 (y.toNat : Int)))
    (hbig : l.length + 1 ≤ 1000000) (hbase : base ≤ w.heap.size)
    (h : ∀ v' w', OwnB w' base v' (l ++ [y]) → w.grownBy w' v.ownBlock → K (a.put o.dst v') w') : if Region.wanted o (yielded ops a.tmps) = true then Oper.wp Tryz.prog o a w K Q else E := by
  obtain ⟨i0, hi, hz0, hz1, hz2⟩ := info_parts infoU8
  refine step_append_any hgd s x _ ho base 5 i0 (.int .u8 0) 1 1 (by kernel_rfl) hi hz0 hz1 hz2 rfl (by omega) v l.length (b8 l) hs hown (some ad) 1 1 (b8 [y]) hx rfl (fun ad' e j u hj => ?_) (fun e => by simp at e) (fun u hu => ?_) (by unfold maxLen; omega) (by omega) hbase (fun v' w' h1 h2 => h v' w' ?_ h2)
  · obtain rfl : ad = ad' := by simpa using e
    match j, hj with
    | 0, hj => simp [b8] at hj; rw [← hj]; exact hc
  · simp [b8] at hu; rw [hu]; rfl
  · unfold OwnB
    rw [b8_append, List.length_append]
    exact h1
set_option maxRecDepth 100000 in
set_option maxHeartbeats 8000000 in
theorem pput1_any (b base : Nat) (l : M.By) (ov : Bool) (a : Option Addr) (m cap : Nat) (ns : List Int) (w : World) (hP : PenAt w base b l ov) (hr : ∀ w', Below base w w' → Kp w w' → Ri w' a m ns) (hm : m ≤ 1000) (hll : ∀ k, (M.pnL false (l, ov) (ns.take k)).1.length ≤ 500000) :
    Calls Tryz.prog 57 #[.pointer (some ⟨b, 0, none⟩), .int .i64 256, .slice a m cap] w fun e w' => (∃ v, e = .returned v) ∧ PenAt w' base b (M.pnL false (l, ov) ns).1 (M.pnL false (l, ov) ns).2 ∧ Below base w w' ∧ Kp w w' := by
  obtain ⟨i1, hi1, hy0, hy1, hy2⟩ := info_parts infoU8
  have HP0 : Aside (PenAt w base b l ov) := hP
  have HRi : Hid (∀ w', Below base w w' → Kp w w' → Ri w' a m ns) := hr
  have HLl : Hid (∀ k, (M.pnL false (l, ov) (ns.take k)).1.length ≤ 500000) := hll
  have hnl : ns.length = m := (hr w (Below.refl _ _) (Kp.refl _)).1
  have HNl : Aside (ns.length = m) := hnl
  clear hP hr hnl hll
  go_enter Tryz.func57, Tryz.ntmps57
  go_wp2_with fail
  go_loopg [11] m (fun g i wr => ∃ k : Nat, k + g = m ∧ i = .int .i64 k ∧ Aside (PenAt wr base b (M.pnL false (l, ov) (ns.take k)).1 (M.pnL false (l, ov) (ns.take k)).2) ∧ Below base w wr ∧ Kp w wr)
  case atStart => exact ⟨0, by omega, rfl, HP0, Below.refl _ _, Kp.refl _⟩
  case round =>
    obtain ⟨k, hk, rfl, HPk, hbel, hkp⟩ := hrel
    by_cases hkm : k < m
    · have hki : (k : Int) < (m : Int) := by omega
      have hkn : k < ns.length := by rw [HNl.out]; exact hkm
      obtain ⟨ab, ao, rfl, hab, hc⟩ : ∃ ab ao, a = some ⟨ab, ao, none⟩ ∧ ab < wr.heap.size ∧ wr.cell? ⟨ab, ao + k, none⟩ = some (.int .i64 (ns.getD k 0)) := by
        rcases (HRi.out wr hbel hkp).cases with ⟨h0, _⟩ | ⟨ab, ao, e, _, _, hB, hc⟩
        · omega
        · exact ⟨ab, ao, e, hB, hc k hkm⟩
      obtain ⟨n, hn⟩ : ∃ n, n = ns.getD k 0 := ⟨_, rfl⟩
      rw [← hn] at hc
      have hst := M.pnL_take false (l, ov) ns k hkn
      rw [← hn] at hst
      obtain ⟨lk, hlk⟩ : ∃ lk, lk = (M.pnL false (l, ov) (ns.take k)).1 := ⟨_, rfl⟩
      obtain ⟨ok, hok⟩ : ∃ ok, ok = (M.pnL false (l, ov) (ns.take k)).2 := ⟨_, rfl⟩
      have hpk : M.pnL false (l, ov) (ns.take k) = (lk, ok) := by rw [hlk, hok]
      have hlk5 : lk.length ≤ 500000 := by rw [hlk]; exact HLl.out k
      rw [← hlk, ← hok] at HPk
      rw [hpk] at hst
      have HSt : Hid (M.pnL false (l, ov) (ns.take (k + 1)) = M.pnS false (lk, ok) n) := hst
      have HPkk : Hid (M.pnL false (l, ov) (ns.take k) = (lk, ok)) := hpk
      obtain ⟨v, blk, hbb, ob⟩ := HPk.out
      obtain ⟨va, vn, vc, rfl⟩ : ∃ va vn vc, v = .slice va vn vc := by
        rcases ob.2 with ⟨e, _⟩ | ⟨g, c, _, e, _⟩
        · exact ⟨_, _, _, e⟩
        · exact ⟨_, _, _, e⟩
      have c0 : wr.cell? ⟨b, 0, none⟩ = some (.slice va vn vc) := by rw [cell_of_row _ _ _ _ _ _ blk]; rfl
      have c1 : wr.cell? ⟨b, 1, none⟩ = some (.bool ok) := by rw [cell_of_row _ _ _ _ _ _ blk]; rfl
      have f1 : wr.frozen? ⟨b, 1, none⟩ = false := frozen_of_row _ _ _ _ _ blk
      clear hst hpk hlk hok hn
      by_cases hg : 0 ≤ n ∧ n < 256
      · have h1 : decide (n < 0) = false := by simp; omega
        have h2 : decide ((256 : Int) ≤ n) = false := by simp; omega
        cases ok with
        | true =>
          have HE : Hid (M.pnL false (l, ov) ns = (lk, true)) := by
            unfold Hid
            rw [M.pnL_stays false (l, ov) ns k (by rw [HPkk.out]), HPkk.out]
          clear blk ob
          go_wp2
          refine bodyPost_ret (results_none rfl _ _ _) rfl ?_
          exact ⟨⟨_, rfl⟩, by rw [HE.out]; exact HPk.out, hbel, hkp⟩
        | false =>
          have hB : M.pnB false n = true := by unfold M.pnB; simp; omega
          have HN : Hid (M.pnL false (l, ov) (ns.take (k + 1)) = (lk ++ M.pnE false n, false)) := by
            unfold Hid
            rw [HSt.out]
            unfold M.pnS
            rw [if_neg (by simp), if_pos hB]
          obtain ⟨nn, rfl⟩ : ∃ nn : Nat, n = (nn : Int) := ⟨n.toNat, by omega⟩
          have hnn : nn < 256 := by omega
          have HPk2 : Aside (PenAt wr base b lk false) := HPk
          clear blk ob hB hg HPk
          go_wp2_with fail
          go_loopg [8] 1 (fun g i wi => ∃ (pl : Int) (cur : M.By), i = .int .i64 pl ∧ ((pl = 1 ∧ g = 1 ∧ cur ++ [UInt8.ofNat nn] = lk ++ M.pnE false (nn : Int)) ∨ (pl = 0 ∧ g = 0 ∧ cur = lk ++ M.pnE false (nn : Int))) ∧ cur.length + g ≤ 500002 ∧ Aside (PenAt wi base b cur false) ∧ Below base wr wi ∧ Kp wr wi)
          case atStart => exact ⟨1, lk, rfl, Or.inl ⟨rfl, rfl, rfl⟩, by omega, HPk2, Below.refl _ _, Kp.refl _⟩
          case round =>
            obtain ⟨pl, cur, rfl, hor, hcu5, HPc, hbi2, hki2⟩ := hrel
            rcases hor with ⟨rfl, rfl, hcu⟩ | ⟨rfl, rfl, hcu⟩
            · obtain ⟨v2, blk2, hbb2, ob2⟩ := HPc.out
              obtain ⟨wa, wn, wc, rfl⟩ : ∃ wa wn wc, v2 = .slice wa wn wc := by
                rcases ob2.2 with ⟨e, _⟩ | ⟨g, c, _, e, _⟩
                · exact ⟨_, _, _, e⟩
                · exact ⟨_, _, _, e⟩
              have d0 : wr.cell? ⟨b, 0, none⟩ = some (.slice wa wn wc) := by rw [cell_of_row _ _ _ _ _ _ blk2]; rfl
              have hw8 : IntKind.u8.wrap ((nn : Nat) : Int) = ((UInt8.ofNat (nn)).toNat : Int) := by rw [UInt8.toNat_ofNat', IntKind.wrap_u8]; omega
              
              have hz64 : IntKind.i64.wrap ((nn : Nat) : Int) = ((nn : Nat) : Int) := by rw [IntKind.wrap_i64]; omega
              obtain ⟨y, hy⟩ : ∃ y : UInt8, y = UInt8.ofNat (nn) := ⟨_, rfl⟩
              rw [← hy] at hw8
              have hbi : b < wr.heap.size := (Array.getElem?_eq_some_iff.1 blk2).1
              have hbasei : base ≤ wr.heap.size := Nat.le_trans hbb2 (Nat.le_of_lt hbi)
              have HSV : Hid (∀ V, Below wr.heap.size wr V → V.cell? ⟨b, 0, none⟩ = some (.slice wa wn wc)) := fun V hV => (hV.cell (p := ⟨b, 0, none⟩) hbi).trans d0
              have HBd : Hid (Below wr.heap.size wr wr.drew) := (Below.refl _ _).drew
              have pb9 : Hid (Below wr.heap.size wr (wr.alloc (.cells #[.int .u8 (y.toNat : Int)] 5)).drew) := ((Below.refl _ _).alloc (Nat.le_refl _) _).drew
              have HBl : Hid ((wr.alloc (.cells #[.int .u8 (y.toNat : Int)] 5)).drew.heap[b]? = some (.cells #[.slice wa wn wc, .bool false] 69 (0, 0))) := (pb9.out.block b hbi).trans blk2
              have HOb : Hid (OwnB (wr.alloc (.cells #[.int .u8 (y.toNat : Int)] 5)).drew base (.slice wa wn wc) cur) := ownsRow_later ob2 pb9.out
              have HY : Hid (y = UInt8.ofNat (nn)) := hy
              clear blk2 ob2 hy
              go_wp2_with fail
              refine wp_region_till 13 (fun V => V.cell? ⟨b, 0, none⟩ = some (.slice wa wn wc)) (by kernel_rfl) (HSV.out _ HBd.out) (fun hHeld => ?_)
              refine till_go 0 (v := .pointer (some ⟨b, 0, none⟩)) rfl (by decide) (by kernel_rfl) (by kernel_rfl) (by kernel_rfl) (fun _ _ _ h => h) (Or.inl ⟨by rfl, fun V _ => (by go_simp)⟩) hHeld ?_
              try simp only [Act.put]
              refine till_go 1 (v := .pointer (some ⟨b, 0, none⟩)) rfl (by decide) (by kernel_rfl) (by kernel_rfl) (by kernel_rfl) (fun _ _ _ h => h) (Or.inl ⟨by rfl, fun V _ => (by go_simp)⟩) hHeld ?_
              try simp only [Act.put]
              refine till_go 2 (v := .pointer (some ⟨b, 0, none⟩)) rfl (by decide) (by kernel_rfl) (by kernel_rfl) (by kernel_rfl) (fun _ _ _ h => h) (Or.inl ⟨by rfl, fun V _ => (by go_simp)⟩) hHeld ?_
              try simp only [Act.put]
              refine till_go 3 (v := .pointer (some ⟨b, 0, none⟩)) rfl (by decide) (by kernel_rfl) (by kernel_rfl) (by kernel_rfl) (fun _ _ _ h => h) (Or.inl ⟨by rfl, fun V _ => (by go_simp)⟩) hHeld ?_
              try simp only [Act.put]
              refine till_take 4 (v := .slice wa wn wc) rfl (by decide) (by kernel_rfl) (by kernel_rfl) (by kernel_rfl) (by kernel_rfl) (by kernel_rfl) (fun _ _ _ h => h) (Or.inl ⟨by rfl, fun V hV => (by have v0 := hV; go_simp)⟩) hHeld ?_
              try simp only [Act.put]
              refine till_go 5 (v := .int .i64 (nn : Int)) rfl (by decide) (by kernel_rfl) (by kernel_rfl) (by kernel_rfl) (fun _ _ _ h => h) (Or.inl ⟨by rfl, fun V _ => (by go_simp)⟩) hHeld ?_
              try simp only [Act.put]
              refine till_go 6 (v := .int .i64 1) rfl (by decide) (by kernel_rfl) (by kernel_rfl) (by kernel_rfl) (fun _ _ _ h => h) (Or.inl ⟨by rfl, fun V _ => (by go_simp)⟩) hHeld ?_
              try simp only [Act.put]
              refine till_go 7 (v := .int .i64 ((nn : Nat) : Int)) rfl (by decide) (by kernel_rfl) (by kernel_rfl) (by kernel_rfl) (fun _ _ _ h => h) (Or.inl ⟨by rfl, fun V _ => (by go_simp)⟩) hHeld ?_
              try simp only [Act.put]
              refine till_go 8 (v := .int .u8 (y.toNat : Int)) rfl (by decide) (by kernel_rfl) (by kernel_rfl) (by kernel_rfl) (fun _ _ _ h => h) (Or.inl ⟨by rfl, fun V _ => (by go_simp)⟩) hHeld ?_
              try simp only [Act.put]
              refine till_step 9 rfl (by decide) (by kernel_rfl) (fun K hK => ?_)
              go_simp
              refine hK.out _ _ (HSV.out _ pb9.out) (fun hHeld => ?_)
              clear hK K
              refine till_step 10 rfl (by decide) (by kernel_rfl) (fun K hK => ?_)
              refine step_byte rfl _ _ rfl base _ cur rfl HOb.out ⟨wr.heap.size, 0, none⟩ y rfl (by simp [go_sem]) (by omega) (by simp; omega) ?_
              intro v8 w8 o8 g8
              obtain ⟨qa, qn, qc, rfl⟩ : ∃ qa qn qc, v8 = .slice qa qn qc := by
                rcases o8.2 with ⟨e, _⟩ | ⟨g, c, _, e, _⟩
                · exact ⟨_, _, _, e⟩
                · exact ⟨_, _, _, e⟩
              obtain ⟨P1, P2, P3, P4⟩ := PenAt.put (m := [y]) HBl.out hbb2 HOb.out (by simp; omega) g8 o8
              have k8 : w8.cell? ⟨b, 0, none⟩ = some (.slice wa wn wc) := by rw [cell_of_row _ _ _ _ _ _ P2]; rfl
              have f8 : w8.frozen? ⟨b, 0, none⟩ = false := frozen_of_row _ _ _ _ _ P2
              have HP1 : Hid (PenAt (w8.setCell ⟨b, 0, none⟩ (.slice qa qn qc)) base b (cur ++ [y]) false) := P1
              have HP3 : Hid (Below base wr (w8.setCell ⟨b, 0, none⟩ (.slice qa qn qc))) := (pb9.out.mono hbasei).trans P3
              have HP4 : Hid (Kp wr (w8.setCell ⟨b, 0, none⟩ (.slice qa qn qc))) := (Kp.of pb9.out).trans P4
              clear P1 P2 P3 P4 o8 g8
              refine hK.out _ _ k8 (fun hHeld => ?_)
              clear hK K
              refine till_go 11 (v := .pointer (some ⟨b, 0, none⟩)) rfl (by decide) (by kernel_rfl) (by kernel_rfl) (by kernel_rfl) (fun _ _ _ h => h) (Or.inl ⟨by rfl, fun V _ => (by go_simp)⟩) hHeld ?_
              try simp only [Act.put]
              refine till_go 12 (v := .pointer (some ⟨b, 0, none⟩)) rfl (by decide) (by kernel_rfl) (by kernel_rfl) (by kernel_rfl) (fun _ _ _ h => h) (Or.inl ⟨by rfl, fun V _ => (by go_simp)⟩) hHeld ?_
              try simp only [Act.put]
              refine till_last rfl (by kernel_rfl) (by kernel_rfl) (fun K hK => ?_) _
              go_simp
              refine hK.out _ _ ?_
              clear hK K
              go_wp2
              go_roundg 0
              case measure => omega
              case rel => exact ⟨0, cur ++ [y], by go_num, Or.inr ⟨rfl, rfl, by rw [HY.out]; exact hcu⟩, by simp; omega, HP1.out, hbi2.trans HP3.out, hki2.trans HP4.out⟩
            · subst hcu
              go_wp2
              go_roundg (gk - 1)
              case measure => omega
              case rel => exact ⟨k + 1, by omega, by go_num, by rw [HN.out]; exact HPc, hbel.trans hbi2, hkp.trans hki2⟩
            
      · have HE : Hid (M.pnL false (l, ov) ns = (lk, true)) := by
          have e : M.pnS false (lk, ok) n = (lk, true) := by
            unfold M.pnS
            cases ok with
            | true => rfl
            | false =>
              have hB : M.pnB false n = false := by unfold M.pnB; simp; omega
              rw [if_neg (by simp), if_neg (by rw [hB]; simp)]
          unfold Hid
          rw [M.pnL_stays false (l, ov) ns (k + 1) (by rw [HSt.out, e]), HSt.out, e]
        obtain ⟨P1, P2, P3⟩ := PenAt.mark blk hbb ob
        obtain ⟨X, hX⟩ : ∃ X, X = wr.setCell ⟨b, 1, none⟩ (.bool true) := ⟨_, rfl⟩
        rw [← hX] at P1 P2 P3
        have HX : Hid (X = wr.setCell ⟨b, 1, none⟩ (.bool true)) := hX
        have HPX : Hid (PenAt X base b lk true) := P1
        have x1 : X.cell? ⟨b, 1, none⟩ = some (.bool true) := by obtain ⟨u, hu, _⟩ := P1; rw [cell_of_row _ _ _ _ _ _ hu]; rfl
        rw [hX] at x1
        have bX := hbel.trans P2
        have kX := hkp.trans P3
        clear blk ob P1 P2 P3 hX
        by_cases hneg : n < 0
        · have h1 : decide (n < 0) = true := by simp [hneg]
          clear hneg hg
          go_wp2
          rw [← HX.out]
          refine bodyPost_ret (results_none rfl _ _ _) rfl ?_
          exact ⟨⟨_, rfl⟩, by rw [HE.out]; exact HPX.out, bX, kX⟩
        · have h1 : decide (n < 0) = false := by simp; omega
          have h2 : decide ((256 : Int) ≤ n) = true := by simp; omega
          clear hneg hg
          go_wp2
          rw [← HX.out]
          refine bodyPost_ret (results_none rfl _ _ _) rfl ?_
          exact ⟨⟨_, rfl⟩, by rw [HE.out]; exact HPX.out, bX, kX⟩
    · obtain rfl : k = m := by omega
      have hkk2 : decide ((k : Int) < (k : Int)) = false := by simp
      have e1 : ns.take k = ns := List.take_of_length_le (by rw [HNl.out]; exact Nat.le_refl _)
      have HPe : Hid (PenAt wr base b (M.pnL false (l, ov) ns).1 (M.pnL false (l, ov) ns).2) := by have := HPk.out; rw [e1] at this; exact this
      clear e1
      go_wp2
      go_end0
      exact ⟨⟨_, rfl⟩, HPe.out, hbel, hkp⟩

set_option maxRecDepth 100000 in
set_option maxHeartbeats 8000000 in
theorem pput2_any (b base : Nat) (l : M.By) (ov : Bool) (a : Option Addr) (m cap : Nat) (ns : List Int) (w : World) (hP : PenAt w base b l ov) (hr : ∀ w', Below base w w' → Kp w w' → Ri w' a m ns) (hm : m ≤ 1000) (hll : ∀ k, (M.pnL true (l, ov) (ns.take k)).1.length ≤ 500000) :
    Calls Tryz.prog 57 #[.pointer (some ⟨b, 0, none⟩), .int .i64 65536, .slice a m cap] w fun e w' => (∃ v, e = .returned v) ∧ PenAt w' base b (M.pnL true (l, ov) ns).1 (M.pnL true (l, ov) ns).2 ∧ Below base w w' ∧ Kp w w' := by
  obtain ⟨i1, hi1, hy0, hy1, hy2⟩ := info_parts infoU8
  have HP0 : Aside (PenAt w base b l ov) := hP
  have HRi : Hid (∀ w', Below base w w' → Kp w w' → Ri w' a m ns) := hr
  have HLl : Hid (∀ k, (M.pnL true (l, ov) (ns.take k)).1.length ≤ 500000) := hll
  have hnl : ns.length = m := (hr w (Below.refl _ _) (Kp.refl _)).1
  have HNl : Aside (ns.length = m) := hnl
  clear hP hr hnl hll
  go_enter Tryz.func57, Tryz.ntmps57
  go_wp2_with fail
  go_loopg [11] m (fun g i wr => ∃ k : Nat, k + g = m ∧ i = .int .i64 k ∧ Aside (PenAt wr base b (M.pnL true (l, ov) (ns.take k)).1 (M.pnL true (l, ov) (ns.take k)).2) ∧ Below base w wr ∧ Kp w wr)
  case atStart => exact ⟨0, by omega, rfl, HP0, Below.refl _ _, Kp.refl _⟩
  case round =>
    obtain ⟨k, hk, rfl, HPk, hbel, hkp⟩ := hrel
    by_cases hkm : k < m
    · have hki : (k : Int) < (m : Int) := by omega
      have hkn : k < ns.length := by rw [HNl.out]; exact hkm
      obtain ⟨ab, ao, rfl, hab, hc⟩ : ∃ ab ao, a = some ⟨ab, ao, none⟩ ∧ ab < wr.heap.size ∧ wr.cell? ⟨ab, ao + k, none⟩ = some (.int .i64 (ns.getD k 0)) := by
        rcases (HRi.out wr hbel hkp).cases with ⟨h0, _⟩ | ⟨ab, ao, e, _, _, hB, hc⟩
        · omega
        · exact ⟨ab, ao, e, hB, hc k hkm⟩
      obtain ⟨n, hn⟩ : ∃ n, n = ns.getD k 0 := ⟨_, rfl⟩
      rw [← hn] at hc
      have hst := M.pnL_take true (l, ov) ns k hkn
      rw [← hn] at hst
      obtain ⟨lk, hlk⟩ : ∃ lk, lk = (M.pnL true (l, ov) (ns.take k)).1 := ⟨_, rfl⟩
      obtain ⟨ok, hok⟩ : ∃ ok, ok = (M.pnL true (l, ov) (ns.take k)).2 := ⟨_, rfl⟩
      have hpk : M.pnL true (l, ov) (ns.take k) = (lk, ok) := by rw [hlk, hok]
      have hlk5 : lk.length ≤ 500000 := by rw [hlk]; exact HLl.out k
      rw [← hlk, ← hok] at HPk
      rw [hpk] at hst
      have HSt : Hid (M.pnL true (l, ov) (ns.take (k + 1)) = M.pnS true (lk, ok) n) := hst
      have HPkk : Hid (M.pnL true (l, ov) (ns.take k) = (lk, ok)) := hpk
      obtain ⟨v, blk, hbb, ob⟩ := HPk.out
      obtain ⟨va, vn, vc, rfl⟩ : ∃ va vn vc, v = .slice va vn vc := by
        rcases ob.2 with ⟨e, _⟩ | ⟨g, c, _, e, _⟩
        · exact ⟨_, _, _, e⟩
        · exact ⟨_, _, _, e⟩
      have c0 : wr.cell? ⟨b, 0, none⟩ = some (.slice va vn vc) := by rw [cell_of_row _ _ _ _ _ _ blk]; rfl
      have c1 : wr.cell? ⟨b, 1, none⟩ = some (.bool ok) := by rw [cell_of_row _ _ _ _ _ _ blk]; rfl
      have f1 : wr.frozen? ⟨b, 1, none⟩ = false := frozen_of_row _ _ _ _ _ blk
      clear hst hpk hlk hok hn
      by_cases hg : 0 ≤ n ∧ n < 65536
      · have h1 : decide (n < 0) = false := by simp; omega
        have h2 : decide ((65536 : Int) ≤ n) = false := by simp; omega
        cases ok with
        | true =>
          have HE : Hid (M.pnL true (l, ov) ns = (lk, true)) := by
            unfold Hid
            rw [M.pnL_stays true (l, ov) ns k (by rw [HPkk.out]), HPkk.out]
          clear blk ob
          go_wp2
          refine bodyPost_ret (results_none rfl _ _ _) rfl ?_
          exact ⟨⟨_, rfl⟩, by rw [HE.out]; exact HPk.out, hbel, hkp⟩
        | false =>
          have hB : M.pnB true n = true := by unfold M.pnB; simp; omega
          have HN : Hid (M.pnL true (l, ov) (ns.take (k + 1)) = (lk ++ M.pnE true n, false)) := by
            unfold Hid
            rw [HSt.out]
            unfold M.pnS
            rw [if_neg (by simp), if_pos hB]
          obtain ⟨nn, rfl⟩ : ∃ nn : Nat, n = (nn : Int) := ⟨n.toNat, by omega⟩
          have hnn : nn < 65536 := by omega
          have HPk2 : Aside (PenAt wr base b lk false) := HPk
          clear blk ob hB hg HPk
          go_wp2_with fail
          go_loopg [8] 2 (fun g i wi => ∃ (pl : Int) (cur : M.By), i = .int .i64 pl ∧ ((pl = 256 ∧ g = 2 ∧ cur = lk) ∨ (pl = 1 ∧ g = 1 ∧ cur ++ [UInt8.ofNat nn] = lk ++ M.pnE true (nn : Int)) ∨ (pl = 0 ∧ g = 0 ∧ cur = lk ++ M.pnE true (nn : Int))) ∧ cur.length + g ≤ 500002 ∧ Aside (PenAt wi base b cur false) ∧ Below base wr wi ∧ Kp wr wi)
          case atStart => exact ⟨256, lk, rfl, Or.inl ⟨rfl, rfl, rfl⟩, by omega, HPk2, Below.refl _ _, Kp.refl _⟩
          case round =>
            obtain ⟨pl, cur, rfl, hor, hcu5, HPc, hbi2, hki2⟩ := hrel
            rcases hor with ⟨rfl, rfl, hcu⟩ | ⟨rfl, rfl, hcu⟩ | ⟨rfl, rfl, hcu⟩
            · obtain ⟨z, hz⟩ : ∃ z : Nat, z = nn / 256 := ⟨_, rfl⟩
              have hzl : z < 256 := by omega
              have HZ : Hid (z = nn / 256) := hz
              obtain ⟨v2, blk2, hbb2, ob2⟩ := HPc.out
              obtain ⟨wa, wn, wc, rfl⟩ : ∃ wa wn wc, v2 = .slice wa wn wc := by
                rcases ob2.2 with ⟨e, _⟩ | ⟨g, c, _, e, _⟩
                · exact ⟨_, _, _, e⟩
                · exact ⟨_, _, _, e⟩
              have d0 : wr.cell? ⟨b, 0, none⟩ = some (.slice wa wn wc) := by rw [cell_of_row _ _ _ _ _ _ blk2]; rfl
              have hw8 : IntKind.u8.wrap ((z : Nat) : Int) = ((UInt8.ofNat (z)).toNat : Int) := by rw [UInt8.toNat_ofNat', IntKind.wrap_u8]; omega
              have hq : (nn : Int) / 256 = ((z : Nat) : Int) := by rw [hz]; omega
              have hz64 : IntKind.i64.wrap ((z : Nat) : Int) = ((z : Nat) : Int) := by rw [IntKind.wrap_i64]; omega
              obtain ⟨y, hy⟩ : ∃ y : UInt8, y = UInt8.ofNat (z) := ⟨_, rfl⟩
              rw [← hy] at hw8
              have hbi : b < wr.heap.size := (Array.getElem?_eq_some_iff.1 blk2).1
              have hbasei : base ≤ wr.heap.size := Nat.le_trans hbb2 (Nat.le_of_lt hbi)
              have HSV : Hid (∀ V, Below wr.heap.size wr V → V.cell? ⟨b, 0, none⟩ = some (.slice wa wn wc)) := fun V hV => (hV.cell (p := ⟨b, 0, none⟩) hbi).trans d0
              have HBd : Hid (Below wr.heap.size wr wr.drew) := (Below.refl _ _).drew
              have pb9 : Hid (Below wr.heap.size wr (wr.alloc (.cells #[.int .u8 (y.toNat : Int)] 5)).drew) := ((Below.refl _ _).alloc (Nat.le_refl _) _).drew
              have HBl : Hid ((wr.alloc (.cells #[.int .u8 (y.toNat : Int)] 5)).drew.heap[b]? = some (.cells #[.slice wa wn wc, .bool false] 69 (0, 0))) := (pb9.out.block b hbi).trans blk2
              have HOb : Hid (OwnB (wr.alloc (.cells #[.int .u8 (y.toNat : Int)] 5)).drew base (.slice wa wn wc) cur) := ownsRow_later ob2 pb9.out
              have HY : Hid (y = UInt8.ofNat (z)) := hy
              clear blk2 ob2 hy hz
              go_wp2_with fail
              refine wp_region_till 13 (fun V => V.cell? ⟨b, 0, none⟩ = some (.slice wa wn wc)) (by kernel_rfl) (HSV.out _ HBd.out) (fun hHeld => ?_)
              refine till_go 0 (v := .pointer (some ⟨b, 0, none⟩)) rfl (by decide) (by kernel_rfl) (by kernel_rfl) (by kernel_rfl) (fun _ _ _ h => h) (Or.inl ⟨by rfl, fun V _ => (by go_simp)⟩) hHeld ?_
              try simp only [Act.put]
              refine till_go 1 (v := .pointer (some ⟨b, 0, none⟩)) rfl (by decide) (by kernel_rfl) (by kernel_rfl) (by kernel_rfl) (fun _ _ _ h => h) (Or.inl ⟨by rfl, fun V _ => (by go_simp)⟩) hHeld ?_
              try simp only [Act.put]
              refine till_go 2 (v := .pointer (some ⟨b, 0, none⟩)) rfl (by decide) (by kernel_rfl) (by kernel_rfl) (by kernel_rfl) (fun _ _ _ h => h) (Or.inl ⟨by rfl, fun V _ => (by go_simp)⟩) hHeld ?_
              try simp only [Act.put]
              refine till_go 3 (v := .pointer (some ⟨b, 0, none⟩)) rfl (by decide) (by kernel_rfl) (by kernel_rfl) (by kernel_rfl) (fun _ _ _ h => h) (Or.inl ⟨by rfl, fun V _ => (by go_simp)⟩) hHeld ?_
              try simp only [Act.put]
              refine till_take 4 (v := .slice wa wn wc) rfl (by decide) (by kernel_rfl) (by kernel_rfl) (by kernel_rfl) (by kernel_rfl) (by kernel_rfl) (fun _ _ _ h => h) (Or.inl ⟨by rfl, fun V hV => (by have v0 := hV; go_simp)⟩) hHeld ?_
              try simp only [Act.put]
              refine till_go 5 (v := .int .i64 (nn : Int)) rfl (by decide) (by kernel_rfl) (by kernel_rfl) (by kernel_rfl) (fun _ _ _ h => h) (Or.inl ⟨by rfl, fun V _ => (by go_simp)⟩) hHeld ?_
              try simp only [Act.put]
              refine till_go 6 (v := .int .i64 256) rfl (by decide) (by kernel_rfl) (by kernel_rfl) (by kernel_rfl) (fun _ _ _ h => h) (Or.inl ⟨by rfl, fun V _ => (by go_simp)⟩) hHeld ?_
              try simp only [Act.put]
              refine till_go 7 (v := .int .i64 ((z : Nat) : Int)) rfl (by decide) (by kernel_rfl) (by kernel_rfl) (by kernel_rfl) (fun _ _ _ h => h) (Or.inl ⟨by rfl, fun V _ => (by go_simp)⟩) hHeld ?_
              try simp only [Act.put]
              refine till_go 8 (v := .int .u8 (y.toNat : Int)) rfl (by decide) (by kernel_rfl) (by kernel_rfl) (by kernel_rfl) (fun _ _ _ h => h) (Or.inl ⟨by rfl, fun V _ => (by go_simp)⟩) hHeld ?_
              try simp only [Act.put]
              refine till_step 9 rfl (by decide) (by kernel_rfl) (fun K hK => ?_)
              go_simp
              refine hK.out _ _ (HSV.out _ pb9.out) (fun hHeld => ?_)
              clear hK K
              refine till_step 10 rfl (by decide) (by kernel_rfl) (fun K hK => ?_)
              refine step_byte rfl _ _ rfl base _ cur rfl HOb.out ⟨wr.heap.size, 0, none⟩ y rfl (by simp [go_sem]) (by omega) (by simp; omega) ?_
              intro v8 w8 o8 g8
              obtain ⟨qa, qn, qc, rfl⟩ : ∃ qa qn qc, v8 = .slice qa qn qc := by
                rcases o8.2 with ⟨e, _⟩ | ⟨g, c, _, e, _⟩
                · exact ⟨_, _, _, e⟩
                · exact ⟨_, _, _, e⟩
              obtain ⟨P1, P2, P3, P4⟩ := PenAt.put (m := [y]) HBl.out hbb2 HOb.out (by simp; omega) g8 o8
              have k8 : w8.cell? ⟨b, 0, none⟩ = some (.slice wa wn wc) := by rw [cell_of_row _ _ _ _ _ _ P2]; rfl
              have f8 : w8.frozen? ⟨b, 0, none⟩ = false := frozen_of_row _ _ _ _ _ P2
              have HP1 : Hid (PenAt (w8.setCell ⟨b, 0, none⟩ (.slice qa qn qc)) base b (cur ++ [y]) false) := P1
              have HP3 : Hid (Below base wr (w8.setCell ⟨b, 0, none⟩ (.slice qa qn qc))) := (pb9.out.mono hbasei).trans P3
              have HP4 : Hid (Kp wr (w8.setCell ⟨b, 0, none⟩ (.slice qa qn qc))) := (Kp.of pb9.out).trans P4
              clear P1 P2 P3 P4 o8 g8
              refine hK.out _ _ k8 (fun hHeld => ?_)
              clear hK K
              refine till_go 11 (v := .pointer (some ⟨b, 0, none⟩)) rfl (by decide) (by kernel_rfl) (by kernel_rfl) (by kernel_rfl) (fun _ _ _ h => h) (Or.inl ⟨by rfl, fun V _ => (by go_simp)⟩) hHeld ?_
              try simp only [Act.put]
              refine till_go 12 (v := .pointer (some ⟨b, 0, none⟩)) rfl (by decide) (by kernel_rfl) (by kernel_rfl) (by kernel_rfl) (fun _ _ _ h => h) (Or.inl ⟨by rfl, fun V _ => (by go_simp)⟩) hHeld ?_
              try simp only [Act.put]
              refine till_last rfl (by kernel_rfl) (by kernel_rfl) (fun K hK => ?_) _
              go_simp
              refine hK.out _ _ ?_
              clear hK K
              go_wp2
              go_roundg 1
              case measure => omega
              case rel => exact ⟨1, cur ++ [y], by go_num, Or.inr (Or.inl ⟨rfl, rfl, by rw [hcu, HY.out, HZ.out]; unfold M.pnE M.b2; simp [M.byte_mod]⟩), by simp; omega, HP1.out, hbi2.trans HP3.out, hki2.trans HP4.out⟩
            
            · obtain ⟨v2, blk2, hbb2, ob2⟩ := HPc.out
              obtain ⟨wa, wn, wc, rfl⟩ : ∃ wa wn wc, v2 = .slice wa wn wc := by
                rcases ob2.2 with ⟨e, _⟩ | ⟨g, c, _, e, _⟩
                · exact ⟨_, _, _, e⟩
                · exact ⟨_, _, _, e⟩
              have d0 : wr.cell? ⟨b, 0, none⟩ = some (.slice wa wn wc) := by rw [cell_of_row _ _ _ _ _ _ blk2]; rfl
              have hw8 : IntKind.u8.wrap ((nn : Nat) : Int) = ((UInt8.ofNat (nn)).toNat : Int) := by rw [UInt8.toNat_ofNat', IntKind.wrap_u8]; omega
              
              have hz64 : IntKind.i64.wrap ((nn : Nat) : Int) = ((nn : Nat) : Int) := by rw [IntKind.wrap_i64]; omega
              obtain ⟨y, hy⟩ : ∃ y : UInt8, y = UInt8.ofNat (nn) := ⟨_, rfl⟩
              rw [← hy] at hw8
              have hbi : b < wr.heap.size := (Array.getElem?_eq_some_iff.1 blk2).1
              have hbasei : base ≤ wr.heap.size := Nat.le_trans hbb2 (Nat.le_of_lt hbi)
              have HSV : Hid (∀ V, Below wr.heap.size wr V → V.cell? ⟨b, 0, none⟩ = some (.slice wa wn wc)) := fun V hV => (hV.cell (p := ⟨b, 0, none⟩) hbi).trans d0
              have HBd : Hid (Below wr.heap.size wr wr.drew) := (Below.refl _ _).drew
              have pb9 : Hid (Below wr.heap.size wr (wr.alloc (.cells #[.int .u8 (y.toNat : Int)] 5)).drew) := ((Below.refl _ _).alloc (Nat.le_refl _) _).drew
              have HBl : Hid ((wr.alloc (.cells #[.int .u8 (y.toNat : Int)] 5)).drew.heap[b]? = some (.cells #[.slice wa wn wc, .bool false] 69 (0, 0))) := (pb9.out.block b hbi).trans blk2
              have HOb : Hid (OwnB (wr.alloc (.cells #[.int .u8 (y.toNat : Int)] 5)).drew base (.slice wa wn wc) cur) := ownsRow_later ob2 pb9.out
              have HY : Hid (y = UInt8.ofNat (nn)) := hy
              clear blk2 ob2 hy
              go_wp2_with fail
              refine wp_region_till 13 (fun V => V.cell? ⟨b, 0, none⟩ = some (.slice wa wn wc)) (by kernel_rfl) (HSV.out _ HBd.out) (fun hHeld => ?_)
              refine till_go 0 (v := .pointer (some ⟨b, 0, none⟩)) rfl (by decide) (by kernel_rfl) (by kernel_rfl) (by kernel_rfl) (fun _ _ _ h => h) (Or.inl ⟨by rfl, fun V _ => (by go_simp)⟩) hHeld ?_
              try simp only [Act.put]
              refine till_go 1 (v := .pointer (some ⟨b, 0, none⟩)) rfl (by decide) (by kernel_rfl) (by kernel_rfl) (by kernel_rfl) (fun _ _ _ h => h) (Or.inl ⟨by rfl, fun V _ => (by go_simp)⟩) hHeld ?_
              try simp only [Act.put]
              refine till_go 2 (v := .pointer (some ⟨b, 0, none⟩)) rfl (by decide) (by kernel_rfl) (by kernel_rfl) (by kernel_rfl) (fun _ _ _ h => h) (Or.inl ⟨by rfl, fun V _ => (by go_simp)⟩) hHeld ?_
              try simp only [Act.put]
              refine till_go 3 (v := .pointer (some ⟨b, 0, none⟩)) rfl (by decide) (by kernel_rfl) (by kernel_rfl) (by kernel_rfl) (fun _ _ _ h => h) (Or.inl ⟨by rfl, fun V _ => (by go_simp)⟩) hHeld ?_
              try simp only [Act.put]
              refine till_take 4 (v := .slice wa wn wc) rfl (by decide) (by kernel_rfl) (by kernel_rfl) (by kernel_rfl) (by kernel_rfl) (by kernel_rfl) (fun _ _ _ h => h) (Or.inl ⟨by rfl, fun V hV => (by have v0 := hV; go_simp)⟩) hHeld ?_
              try simp only [Act.put]
              refine till_go 5 (v := .int .i64 (nn : Int)) rfl (by decide) (by kernel_rfl) (by kernel_rfl) (by kernel_rfl) (fun _ _ _ h => h) (Or.inl ⟨by rfl, fun V _ => (by go_simp)⟩) hHeld ?_
              try simp only [Act.put]
              refine till_go 6 (v := .int .i64 1) rfl (by decide) (by kernel_rfl) (by kernel_rfl) (by kernel_rfl) (fun _ _ _ h => h) (Or.inl ⟨by rfl, fun V _ => (by go_simp)⟩) hHeld ?_
              try simp only [Act.put]
              refine till_go 7 (v := .int .i64 ((nn : Nat) : Int)) rfl (by decide) (by kernel_rfl) (by kernel_rfl) (by kernel_rfl) (fun _ _ _ h => h) (Or.inl ⟨by rfl, fun V _ => (by go_simp)⟩) hHeld ?_
              try simp only [Act.put]
              refine till_go 8 (v := .int .u8 (y.toNat : Int)) rfl (by decide) (by kernel_rfl) (by kernel_rfl) (by kernel_rfl) (fun _ _ _ h => h) (Or.inl ⟨by rfl, fun V _ => (by go_simp)⟩) hHeld ?_
              try simp only [Act.put]
              refine till_step 9 rfl (by decide) (by kernel_rfl) (fun K hK => ?_)
              go_simp
              refine hK.out _ _ (HSV.out _ pb9.out) (fun hHeld => ?_)
              clear hK K
              refine till_step 10 rfl (by decide) (by kernel_rfl) (fun K hK => ?_)
              refine step_byte rfl _ _ rfl base _ cur rfl HOb.out ⟨wr.heap.size, 0, none⟩ y rfl (by simp [go_sem]) (by omega) (by simp; omega) ?_
              intro v8 w8 o8 g8
              obtain ⟨qa, qn, qc, rfl⟩ : ∃ qa qn qc, v8 = .slice qa qn qc := by
                rcases o8.2 with ⟨e, _⟩ | ⟨g, c, _, e, _⟩
                · exact ⟨_, _, _, e⟩
                · exact ⟨_, _, _, e⟩
              obtain ⟨P1, P2, P3, P4⟩ := PenAt.put (m := [y]) HBl.out hbb2 HOb.out (by simp; omega) g8 o8
              have k8 : w8.cell? ⟨b, 0, none⟩ = some (.slice wa wn wc) := by rw [cell_of_row _ _ _ _ _ _ P2]; rfl
              have f8 : w8.frozen? ⟨b, 0, none⟩ = false := frozen_of_row _ _ _ _ _ P2
              have HP1 : Hid (PenAt (w8.setCell ⟨b, 0, none⟩ (.slice qa qn qc)) base b (cur ++ [y]) false) := P1
              have HP3 : Hid (Below base wr (w8.setCell ⟨b, 0, none⟩ (.slice qa qn qc))) := (pb9.out.mono hbasei).trans P3
              have HP4 : Hid (Kp wr (w8.setCell ⟨b, 0, none⟩ (.slice qa qn qc))) := (Kp.of pb9.out).trans P4
              clear P1 P2 P3 P4 o8 g8
              refine hK.out _ _ k8 (fun hHeld => ?_)
              clear hK K
              refine till_go 11 (v := .pointer (some ⟨b, 0, none⟩)) rfl (by decide) (by kernel_rfl) (by kernel_rfl) (by kernel_rfl) (fun _ _ _ h => h) (Or.inl ⟨by rfl, fun V _ => (by go_simp)⟩) hHeld ?_
              try simp only [Act.put]
              refine till_go 12 (v := .pointer (some ⟨b, 0, none⟩)) rfl (by decide) (by kernel_rfl) (by kernel_rfl) (by kernel_rfl) (fun _ _ _ h => h) (Or.inl ⟨by rfl, fun V _ => (by go_simp)⟩) hHeld ?_
              try simp only [Act.put]
              refine till_last rfl (by kernel_rfl) (by kernel_rfl) (fun K hK => ?_) _
              go_simp
              refine hK.out _ _ ?_
              clear hK K
              go_wp2
              go_roundg 0
              case measure => omega
              case rel => exact ⟨0, cur ++ [y], by go_num, Or.inr (Or.inr ⟨rfl, rfl, by rw [HY.out]; exact hcu⟩), by simp; omega, HP1.out, hbi2.trans HP3.out, hki2.trans HP4.out⟩
            · subst hcu
              go_wp2
              go_roundg (gk - 1)
              case measure => omega
              case rel => exact ⟨k + 1, by omega, by go_num, by rw [HN.out]; exact HPc, hbel.trans hbi2, hkp.trans hki2⟩
            
      · have HE : Hid (M.pnL true (l, ov) ns = (lk, true)) := by
          have e : M.pnS true (lk, ok) n = (lk, true) := by
            unfold M.pnS
            cases ok with
            | true => rfl
            | false =>
              have hB : M.pnB true n = false := by unfold M.pnB; simp; omega
              rw [if_neg (by simp), if_neg (by rw [hB]; simp)]
          unfold Hid
          rw [M.pnL_stays true (l, ov) ns (k + 1) (by rw [HSt.out, e]), HSt.out, e]
        obtain ⟨P1, P2, P3⟩ := PenAt.mark blk hbb ob
        obtain ⟨X, hX⟩ : ∃ X, X = wr.setCell ⟨b, 1, none⟩ (.bool true) := ⟨_, rfl⟩
        rw [← hX] at P1 P2 P3
        have HX : Hid (X = wr.setCell ⟨b, 1, none⟩ (.bool true)) := hX
        have HPX : Hid (PenAt X base b lk true) := P1
        have x1 : X.cell? ⟨b, 1, none⟩ = some (.bool true) := by obtain ⟨u, hu, _⟩ := P1; rw [cell_of_row _ _ _ _ _ _ hu]; rfl
        rw [hX] at x1
        have bX := hbel.trans P2
        have kX := hkp.trans P3
        clear blk ob P1 P2 P3 hX
        by_cases hneg : n < 0
        · have h1 : decide (n < 0) = true := by simp [hneg]
          clear hneg hg
          go_wp2
          rw [← HX.out]
          refine bodyPost_ret (results_none rfl _ _ _) rfl ?_
          exact ⟨⟨_, rfl⟩, by rw [HE.out]; exact HPX.out, bX, kX⟩
        · have h1 : decide (n < 0) = false := by simp; omega
          have h2 : decide ((65536 : Int) ≤ n) = true := by simp; omega
          clear hneg hg
          go_wp2
          rw [← HX.out]
          refine bodyPost_ret (results_none rfl _ _ _) rfl ?_
          exact ⟨⟨_, rfl⟩, by rw [HE.out]; exact HPX.out, bX, kX⟩
    · obtain rfl : k = m := by omega
      have hkk2 : decide ((k : Int) < (k : Int)) = false := by simp
      have e1 : ns.take k = ns := List.take_of_length_le (by rw [HNl.out]; exact Nat.le_refl _)
      have HPe : Hid (PenAt wr base b (M.pnL true (l, ov) ns).1 (M.pnL true (l, ov) ns).2) := by have := HPk.out; rw [e1] at this; exact this
      clear e1
      go_wp2
      go_end0
      exact ⟨⟨_, rfl⟩, HPe.out, hbel, hkp⟩

end Go.Proofs.YtcgpgflnihjpiagGreat

/- A pen: Bytes, Pairs, Text, Written. -/
namespace Go.Proofs.YtcgpgflnihjpiagGreat
open Go.RowKit Go.Lib

/-- Numbers that lie in a block of their own stay whatever is put. -/
theorem ri_kept {w w' : World} {k : Nat} {ns : List Int} (h : w.heap[k]? = some (.cells (ns.map (Value.int .i64)).toArray 3 (0, 0))) (hk : Kp w w') : Ri w' (some ⟨k, 0, none⟩) ns.length ns := by
  have h1 := hk k _ _ (by decide) (by decide) h
  refine ⟨rfl, Or.inr ⟨k, 0, rfl, (Array.getElem?_eq_some_iff.1 h1).1, fun i hi => ?_⟩⟩
  rw [cell_of_row _ _ _ _ _ _ h1]
  simp [List.getD, hi]

set_option maxRecDepth 100000 in
set_option maxHeartbeats 4000000 in
theorem pbytes_any (b base : Nat) (l : M.By) (ov : Bool) (a : Option Addr) (m cap : Nat) (ns : List Int) (w : World) (hP : PenAt w base b l ov) (hr : ∀ w', Below base w w' → Kp w w' → Ri w' a m ns) (hm : m ≤ 1000) (hll : l.length ≤ 400000) :
    Calls Tryz.prog 24 #[.pointer (some ⟨b, 0, none⟩), .slice a m cap] w fun e w' => (∃ v, e = .returned v) ∧ PenAt w' base b (M.pnL false (l, ov) ns).1 (M.pnL false (l, ov) ns).2 ∧ Below base w w' ∧ Kp w w' := by
  have K := pput1_any b base l ov a m cap ns w hP hr hm (fun k => by
    have h1 := M.pnL_len false (l, ov) (ns.take k)
    have h2 : (ns.take k).length ≤ m := by rw [← (hr w (Below.refl _ _) (Kp.refl _)).1, List.length_take]; omega
    simp only at h1
    omega)
  have HK : Hid (Calls Tryz.prog 57 #[.pointer (some ⟨b, 0, none⟩), .int .i64 256, .slice a m cap] w fun e w' => (∃ v, e = .returned v) ∧ PenAt w' base b (M.pnL false (l, ov) ns).1 (M.pnL false (l, ov) ns).2 ∧ Below base w w' ∧ Kp w w') := K
  clear K hP hr
  go_enter Tryz.func24, Tryz.ntmps24
  go_wp2_with fail
  refine HK.out.mono ?_
  rintro e w1 ⟨⟨v, rfl⟩, h1, h2, h3⟩
  have H1 : Hid (PenAt _ _ _ _ _) := h1
  clear h1
  go_wp2
  go_end0
  exact ⟨⟨_, rfl⟩, H1.out, h2, h3⟩
set_option maxRecDepth 100000 in
set_option maxHeartbeats 4000000 in
theorem ppairs_any (b base : Nat) (l : M.By) (ov : Bool) (a : Option Addr) (m cap : Nat) (ns : List Int) (w : World) (hP : PenAt w base b l ov) (hr : ∀ w', Below base w w' → Kp w w' → Ri w' a m ns) (hm : m ≤ 1000) (hll : l.length ≤ 400000) :
    Calls Tryz.prog 26 #[.pointer (some ⟨b, 0, none⟩), .slice a m cap] w fun e w' => (∃ v, e = .returned v) ∧ PenAt w' base b (M.pnL true (l, ov) ns).1 (M.pnL true (l, ov) ns).2 ∧ Below base w w' ∧ Kp w w' := by
  have K := pput2_any b base l ov a m cap ns w hP hr hm (fun k => by
    have h1 := M.pnL_len true (l, ov) (ns.take k)
    have h2 : (ns.take k).length ≤ m := by rw [← (hr w (Below.refl _ _) (Kp.refl _)).1, List.length_take]; omega
    simp only at h1
    omega)
  have HK : Hid (Calls Tryz.prog 57 #[.pointer (some ⟨b, 0, none⟩), .int .i64 65536, .slice a m cap] w fun e w' => (∃ v, e = .returned v) ∧ PenAt w' base b (M.pnL true (l, ov) ns).1 (M.pnL true (l, ov) ns).2 ∧ Below base w w' ∧ Kp w w') := K
  clear K hP hr
  go_enter Tryz.func26, Tryz.ntmps26
  go_wp2_with fail
  refine HK.out.mono ?_
  rintro e w1 ⟨⟨v, rfl⟩, h1, h2, h3⟩
  have H1 : Hid (PenAt _ _ _ _ _) := h1
  clear h1
  go_wp2
  go_end0
  exact ⟨⟨_, rfl⟩, H1.out, h2, h3⟩

theorem strCells_b8 (s : M.By) : strCells (M.str s) = b8 s := by
  simp [strCells, M.str, b8]
/-- A text's bytes are appended. -/
theorem append_text {w : World} {ops : Array Oper} {rest : List Oper} {o : Oper} {a : Act} {Q : Exit → Act → World → Prop} (hgd : o.guard = none) (s x : Operand)
    (ho : o.op = .call { callee := .builtin .append, args := #[s, x], argTypes := #[67, 9] })
    (base : Nat) (v : Value) (l t : M.By) (hs : a.eval s = v) (hx : a.eval x = .string (M.str t)) (hown : OwnB w base v l)
    (hbig : l.length + t.length ≤ 1000000) (hbase : base ≤ w.heap.size)
    (h : ∀ v' w', OwnB w' base v' (l ++ t) → w.grownBy w' v.ownBlock → wpList Tryz.prog ops Q rest (a.put o.dst v') w') : wpList Tryz.prog ops Q (o :: rest) a w := by
  obtain ⟨i0, hi, hz0, hz1, hz2⟩ := info_parts infoU8
  obtain ⟨v', w', hrun, ho', hg, _⟩ := run_append_own_string (P := Tryz.prog) w base 67 9 o.type 5 i0 (by kernel_rfl) (by kernel_rfl) hi hz0 hz1 hz2 v l.length (b8 l) hown (M.str t) (by rw [M.str_size]; unfold maxLen; omega) (by rw [M.str_size]; omega) hbase
  have hk := h v' w' (by unfold OwnB; rw [b8_append, List.length_append]; rw [M.str_size, strCells_b8] at ho'; exact ho') hg
  refine wpList_plain hgd fun K hK => ?_
  unfold Oper.wp execOp
  simp only [ho, resolve, invoke, builtin, Sem.run_bind, Sem.run_pure, Result.andThen_ok, List.map_toArray, List.map_cons, List.map_nil, hs, hx, hrun]
  exact hK _ _ hk

set_option maxRecDepth 100000 in
set_option maxHeartbeats 8000000 in
theorem ptext_any (b base : Nat) (l : M.By) (ov : Bool) (s : M.By) (w : World) (hP : PenAt w base b l ov) (hs : s.length ≤ 9223372036854775807) (hll : l.length ≤ 300000) :
    Calls Tryz.prog 25 #[.pointer (some ⟨b, 0, none⟩), .string (M.str s)] w fun e w' => (∃ v, e = .returned v) ∧ PenAt w' base b (M.pnT (l, ov) s).1 (M.pnT (l, ov) s).2 ∧ Below base w w' ∧ Kp w w' := by
  have hbb : base ≤ b := by obtain ⟨_, _, h, _⟩ := hP; exact h
  have hbs : base ≤ w.heap.size := Nat.le_trans hbb (Nat.le_of_lt hP.lt)
  obtain ⟨W, hW⟩ : ∃ W, W = w.alloc (.cells #[.int .i64 (s.length : Int)] 3) := ⟨_, rfl⟩
  have hb0 : Below w.heap.size w W := by rw [hW]; exact (Below.refl _ _).alloc (Nat.le_refl _) _
  have hW0 : W.heap[w.heap.size]? = some (.cells #[.int .i64 (s.length : Int)] 3 (0, 0)) := by rw [hW]; exact heap_alloc_new _ _
  have K := pbytes_any b base l ov (some ⟨w.heap.size, 0, none⟩) 1 1 [(s.length : Int)] W (hP.later hb0) (fun w' _ hk => ri_kept hW0 hk) (by omega) (by omega)
  have HK : Hid (Calls Tryz.prog 24 #[.pointer (some ⟨b, 0, none⟩), .slice (some ⟨w.heap.size, 0, none⟩) 1 1] W fun e w' => (∃ v, e = .returned v) ∧ PenAt w' base b (M.pnS false (l, ov) (s.length : Int)).1 (M.pnS false (l, ov) (s.length : Int)).2 ∧ Below base W w' ∧ Kp W w') := K
  have HW : Hid (W = w.alloc (.cells #[.int .i64 (s.length : Int)] 3)) := hW
  have hbel : Below base w W := hb0.mono hbs
  have hkp : Kp w W := Kp.of hb0
  obtain ⟨str, hstr⟩ : ∃ str, str = M.str s := ⟨_, rfl⟩
  have hsz : str.size = s.length := by rw [hstr, M.str_size]
  have HS : Hid (str = M.str s) := hstr
  rw [← hstr]
  obtain ⟨sl, hsl⟩ : ∃ sl, sl = s.length := ⟨_, rfl⟩
  have HSl : Hid (sl = s.length) := hsl
  have hsl8 : sl ≤ 9223372036854775807 := by omega
  rw [← hsl] at hsz HK HW
  have hlen := M.pnS_len false (l, ov) (sl : Int)
  have HT : Hid (M.pnT (l, ov) s = if (M.pnS false (l, ov) (sl : Int)).2 = true then M.pnS false (l, ov) (sl : Int) else ((M.pnS false (l, ov) (sl : Int)).1 ++ s, false)) := by rw [hsl]; rfl
  have HB : Hid ((M.pnS false (l, ov) (sl : Int)).2 = false → sl < 256) := M.pnS_small
  generalize M.pnS false (l, ov) (sl : Int) = st at *
  obtain ⟨l1, o1⟩ := st
  simp only at hlen
  clear K hP hW hstr hsl hs hb0 hW0
  go_enter Tryz.func25, Tryz.ntmps25
  go_wp2_with fail
  rw [← HW.out]
  refine HK.out.mono ?_
  rintro e w1 ⟨⟨v, rfl⟩, h1, h2, h3⟩
  obtain ⟨v1, blk, _, ob⟩ := h1
  obtain ⟨va, vn, vc, rfl⟩ : ∃ va vn vc, v1 = .slice va vn vc := by
    rcases ob.2 with ⟨e, _⟩ | ⟨g, c, _, e, _⟩
    · exact ⟨_, _, _, e⟩
    · exact ⟨_, _, _, e⟩
  have c0 : w1.cell? ⟨b, 0, none⟩ = some (.slice va vn vc) := by rw [cell_of_row _ _ _ _ _ _ blk]; rfl
  have c1 : w1.cell? ⟨b, 1, none⟩ = some (.bool o1) := by rw [cell_of_row _ _ _ _ _ _ blk]; rfl
  have hbw1 := hbel.trans h2
  have hkw1 := hkp.trans h3
  have Hblk : Hid (w1.heap[b]? = some (.cells #[.slice va vn vc, .bool o1] 69 (0, 0))) := blk
  have Hob : Hid (OwnB w1 base (.slice va vn vc) l1) := ob
  have hbs1 : base ≤ w1.heap.size := Nat.le_trans hbs hbw1.size
  clear h2 h3 blk ob hbel hkp HK
  cases o1 with
  | true =>
    go_wp2
    go_end0
    refine ⟨⟨_, rfl⟩, ?_, hbw1, hkw1⟩
    rw [HT.out]
    exact ⟨_, Hblk.out, hbb, Hob.out⟩
  | false =>
    have hs2 : sl < 256 := HB.out rfl
    rw [HS.out]
    have hbig : l1.length + s.length ≤ 1000000 := by rw [← HSl.out]; omega
    go_wp2_with (at_builtin; refine append_text rfl _ _ rfl base _ l1 s rfl rfl Hob.out hbig hbs1 ?_)
    intro v8 w8 o8 g8
    obtain ⟨qa, qn, qc, rfl⟩ : ∃ qa qn qc, v8 = .slice qa qn qc := by
      rcases o8.2 with ⟨e, _⟩ | ⟨g, c, _, e, _⟩
      · exact ⟨_, _, _, e⟩
      · exact ⟨_, _, _, e⟩
    obtain ⟨P1, P2, P3, P4⟩ := PenAt.put (m := s) Hblk.out hbb Hob.out hbs1 g8 o8
    have k8 : w8.cell? ⟨b, 0, none⟩ = some (.slice va vn vc) := by rw [cell_of_row _ _ _ _ _ _ P2]; rfl
    have f8 : w8.frozen? ⟨b, 0, none⟩ = false := frozen_of_row _ _ _ _ _ P2
    have HP1 : Hid (PenAt (w8.setCell ⟨b, 0, none⟩ (.slice qa qn qc)) base b (l1 ++ s) false) := P1
    have HP3 : Hid (Below base w (w8.setCell ⟨b, 0, none⟩ (.slice qa qn qc))) := hbw1.trans P3
    have HP4 : Hid (Kp w (w8.setCell ⟨b, 0, none⟩ (.slice qa qn qc))) := hkw1.trans P4
    clear P1 P2 P3 P4 o8 g8 c0 c1
    go_wp2
    go_end0
    refine ⟨⟨_, rfl⟩, ?_, HP3.out, HP4.out⟩
    rw [HT.out]
    exact HP1.out

set_option maxRecDepth 100000 in
set_option maxHeartbeats 8000000 in
theorem written_any (b base : Nat) (l : M.By) (ov : Bool) (w : World) (hP : PenAt w base b l ov) :
    Calls Tryz.prog 27 #[.pointer (some ⟨b, 0, none⟩)] w fun e w' => e = .returned (.tuple #[.string (M.str (if ov = true then [] else l)), .int .i64 (if ov = true then 3 else 0)]) ∧ Below w.heap.size w w' := by
  obtain ⟨v1, blk, _, ob⟩ := hP
  obtain ⟨va, vn, vc, rfl⟩ : ∃ va vn vc, v1 = .slice va vn vc := by
    rcases ob.2 with ⟨e, _⟩ | ⟨g, c, _, e, _⟩
    · exact ⟨_, _, _, e⟩
    · exact ⟨_, _, _, e⟩
  have c0 : w.cell? ⟨b, 0, none⟩ = some (.slice va vn vc) := by rw [cell_of_row _ _ _ _ _ _ blk]; rfl
  have c1 : w.cell? ⟨b, 1, none⟩ = some (.bool ov) := by rw [cell_of_row _ _ _ _ _ _ blk]; rfl
  have hcv : (convert 67 9 (.slice va vn vc)).run Tryz.prog w = .ok (.string (M.str l)) w := by
    rcases ob.2 with ⟨e, e2⟩ | ⟨g, c, cur, e, hg, hgb, h4, h5, h6, h7⟩
    · simp at e
      obtain ⟨rfl, rfl, rfl⟩ := e
      obtain rfl : l = [] := List.eq_nil_of_length_eq_zero (by simpa using e2)
      exact run_convert_nil_bytes w _ _ 5 _ (by kernel_rfl) (by kernel_rfl) (by kernel_rfl)
    · simp at e
      obtain ⟨rfl, rfl, rfl⟩ := e
      refine run_convert_bytes_back w _ _ 5 _ _ l (by kernel_rfl) (by kernel_rfl) (by kernel_rfl) (fun j hj => ?_)
      have hj2 : j < cur.size := by have := congrArg List.length h7; simp [b8] at this; omega
      rw [Addr.add_lit, cell_of_row _ _ _ _ _ _ hgb]
      have h8 : (cur.toList.take (l.length * 1))[j]? = (b8 l)[j]? := by rw [h7]
      rw [List.getElem?_take_of_lt (by omega)] at h8
      simp [b8, hj] at h8
      simpa using h8
  clear blk ob
  go_enter Tryz.func27, Tryz.ntmps27
  cases ov with
  | true =>
    go_wp2
    go_ret2
    exact ⟨by simp [M.str], Below.refl _ _⟩
  | false =>
    go_wp2
    go_ret2
    exact ⟨by simp, Below.refl _ _⟩
end Go.Proofs.YtcgpgflnihjpiagGreat

/- An act's values. -/
namespace Go.Proofs.YtcgpgflnihjpiagGreat
/-- An act's values. -/
def actV (x : M.Act) (a : Option Addr) (m cap : Nat) : Value := .agg #[.int .i64 x.kind, .string (M.str x.one), .string (M.str x.two), .slice a m cap]
end Go.Proofs.YtcgpgflnihjpiagGreat

/- Changes in memory, and changes appended to a row of the call's own. -/
namespace Go.Proofs.YtcgpgflnihjpiagGreat
open Go.RowKit

/-- The slice at a, of n changes, holds the changes l. -/
def Rc (w : World) (a : Option Addr) (n : Nat) (l : List M.Chg) : Prop :=
  l.length = n ∧ (n = 0 ∨ ∃ b off, a = some ⟨b, off, none⟩ ∧ b < w.heap.size ∧ ∀ i, i < n → w.cell? ⟨b, off + i * 3, none⟩ = some (.int .i64 (l.getD i (0, 0, 0)).1) ∧ w.cell? ⟨b, off + i * 3 + 1, none⟩ = some (.int .i64 (l.getD i (0, 0, 0)).2.1) ∧ w.cell? ⟨b, off + i * 3 + 2, none⟩ = some (.int .i64 (l.getD i (0, 0, 0)).2.2))
theorem Rc.below {w w' : World} {a : Option Addr} {n : Nat} {l : List M.Chg} (h : Rc w a n l) {B : Nat} (hb : Below B w w') (hB : w.heap.size ≤ B) : Rc w' a n l := by
  obtain ⟨h1, h2⟩ := h
  refine ⟨h1, ?_⟩
  rcases h2 with h2 | ⟨b, off, ha, hlt, hc⟩
  · exact Or.inl h2
  · refine Or.inr ⟨b, off, ha, Nat.lt_of_lt_of_le hlt hb.size, fun i hi => ?_⟩
    rw [hb.cell (p := ⟨b, off + i * 3, none⟩) (by show b < B; omega), hb.cell (p := ⟨b, off + i * 3 + 1, none⟩) (by show b < B; omega), hb.cell (p := ⟨b, off + i * 3 + 2, none⟩) (by show b < B; omega)]
    exact hc i hi
theorem Rc.cases {w : World} {a : Option Addr} {n : Nat} {l : List M.Chg} (h : Rc w a n l) : (n = 0 ∧ l = []) ∨ ∃ b off, a = some ⟨b, off, none⟩ ∧ 0 < n ∧ l.length = n ∧ b < w.heap.size ∧ ∀ i, i < n → w.cell? ⟨b, off + i * 3, none⟩ = some (.int .i64 (l.getD i (0, 0, 0)).1) ∧ w.cell? ⟨b, off + i * 3 + 1, none⟩ = some (.int .i64 (l.getD i (0, 0, 0)).2.1) ∧ w.cell? ⟨b, off + i * 3 + 2, none⟩ = some (.int .i64 (l.getD i (0, 0, 0)).2.2) := by
  obtain ⟨h1, h2⟩ := h
  by_cases hn : n = 0
  · exact Or.inl ⟨hn, List.eq_nil_of_length_eq_zero (by omega)⟩
  · rcases h2 with h2 | ⟨b, off, ha, hlt, hc⟩
    · exact absurd h2 hn
    · exact Or.inr ⟨b, off, ha, by omega, h1, hlt, hc⟩

/-- A change as a value. -/
def cval (c : M.Chg) : Value := .agg #[.int .i64 c.1, .int .i64 c.2.1, .int .i64 c.2.2]
def encC (l : List M.Chg) : List Value := l.flatMap fun c => [.int .i64 c.1, .int .i64 c.2.1, .int .i64 c.2.2]
theorem encC_length (l : List M.Chg) : (encC l).length = l.length * 3 := by
  induction l with
  | nil => rfl
  | cons r t ih => simp [encC] at ih ⊢; omega
theorem encC_append (a b : List M.Chg) : encC (a ++ b) = encC a ++ encC b := by simp [encC]
theorem encC_cons (r : M.Chg) (t : List M.Chg) : encC (r :: t) = .int .i64 r.1 :: .int .i64 r.2.1 :: .int .i64 r.2.2 :: encC t := by simp [encC]
theorem encC_at (l : List M.Chg) (i : Nat) (h : i < l.length) : (encC l)[i * 3]? = some (.int .i64 (l.getD i (0, 0, 0)).1) ∧ (encC l)[i * 3 + 1]? = some (.int .i64 (l.getD i (0, 0, 0)).2.1) ∧ (encC l)[i * 3 + 2]? = some (.int .i64 (l.getD i (0, 0, 0)).2.2) := by
  induction l generalizing i with
  | nil => simp at h
  | cons r t ih =>
    rw [encC_cons]
    cases i with
    | zero => simp
    | succ i =>
      have := ih i (by simpa using h)
      rw [show (i + 1) * 3 = i * 3 + 1 + 1 + 1 by omega]
      simpa using this
theorem encC_one (l : List M.Chg) : ∀ u ∈ encC l, u.oneCell' = true := by
  intro u hu
  simp only [encC, List.mem_flatMap] at hu
  obtain ⟨r, _, h⟩ := hu
  simp at h
  rcases h with rfl | rfl | rfl <;> rfl
/-- The changes l lie in a row of the call's own. -/
def OwnC (w : World) (base : Nat) (v : Value) (l : List M.Chg) : Prop := w.ownsRow base 64 3 v l.length (encC l)
theorem OwnC.nil (w : World) (base : Nat) : OwnC w base (.slice none 0 0) [] := World.ownsRow_nil _ _ _ _
theorem OwnC.mono {w : World} {base base' : Nat} {v : Value} {l : List M.Chg} (h : OwnC w base v l) (hb : base' ≤ base) : OwnC w base' v l := by
  obtain ⟨h1, h2⟩ := h
  refine ⟨h1, ?_⟩
  rcases h2 with h2 | ⟨g, cap, cur, hv, hg, r⟩
  · exact Or.inl h2
  · exact Or.inr ⟨g, cap, cur, hv, Nat.le_trans hb hg, r⟩
theorem OwnC.below {w w' : World} {base : Nat} {v : Value} {l : List M.Chg} (h : OwnC w base v l) (hb : Below w.heap.size w w') : OwnC w' base v l := by
  obtain ⟨h1, h2⟩ := h
  refine ⟨h1, ?_⟩
  rcases h2 with h2 | ⟨g, cap, cur, hv, hg, hh, r⟩
  · exact Or.inl h2
  · exact Or.inr ⟨g, cap, cur, hv, hg, (hb.block g (Array.getElem?_eq_some_iff.1 hh).1).trans hh, r⟩
theorem OwnC.rc {w : World} {base : Nat} {v : Value} {l : List M.Chg} (h : OwnC w base v l) : ∃ a cap, v = .slice a l.length cap ∧ Rc w a l.length l ∧ l.length ≤ cap ∧ cap ≤ maxLen := by
  have h0 := h
  obtain ⟨h1, h2⟩ := h
  rcases h2 with ⟨rfl, hn⟩ | ⟨g, cap, cur, rfl, hb, hh, hc, hm, hs, hx⟩
  · exact ⟨none, 0, by rw [hn], ⟨rfl, Or.inl hn⟩, by omega, by simp [maxLen]⟩
  · refine ⟨_, cap, rfl, ⟨rfl, ?_⟩, hc, hm⟩
    have hlt : g < w.heap.size := (Array.getElem?_eq_some_iff.1 hh).1
    refine Or.inr ⟨g, 0, rfl, hlt, fun i hi => ?_⟩
    have e := encC_at l i hi
    rw [World.ownsRow.cellAt h0 (0 + i * 3) (by omega), World.ownsRow.cellAt h0 (0 + i * 3 + 1) (by omega), World.ownsRow.cellAt h0 (0 + i * 3 + 2) (by omega), Nat.zero_add]
    exact e
/-- Rows of two kinds lie in two blocks. -/
theorem apart_rows {w : World} {b1 b2 : Nat} {t1 t2 : TypeId} {s1 s2 n1 n2 : Nat} {v1 v2 : Value} {x1 x2 : List Value} (h1 : w.ownsRow b1 t1 s1 v1 n1 x1) (h2 : w.ownsRow b2 t2 s2 v2 n2 x2) (hne : t1 ≠ t2) : ∀ k, v1.ownBlock = some k → v2.ownBlock ≠ some k := by
  intro k e1 e2
  obtain ⟨_, k1⟩ := h1
  obtain ⟨_, k2⟩ := h2
  rcases k1 with ⟨rfl, _⟩ | ⟨g, cap, cur, rfl, _, hh, _⟩
  · simp [Value.ownBlock] at e1
  · rcases k2 with ⟨rfl, _⟩ | ⟨g2, cap2, cur2, rfl, _, hh2, _⟩
    · simp [Value.ownBlock] at e2
    · simp [Value.ownBlock] at e1 e2
      subst e1
      rw [e2] at hh2
      rw [hh2] at hh
      simp at hh
      exact hne hh.2.symm
theorem keep_row {w w' : World} {b : Nat} {t : TypeId} {s n : Nat} {v : Value} {x : List Value} (h : w.ownsRow b t s v n x) (hk : ∀ k, k < w.heap.size → v.ownBlock = some k → w'.heap[k]? = w.heap[k]?) : w'.ownsRow b t s v n x := by
  obtain ⟨h1, h2⟩ := h
  refine ⟨h1, ?_⟩
  rcases h2 with h2 | ⟨g, cap, cur, hv, hg, hh, r⟩
  · exact Or.inl h2
  · exact Or.inr ⟨g, cap, cur, hv, hg, (hk g (Array.getElem?_eq_some_iff.1 hh).1 (by rw [hv]; rfl)).trans hh, r⟩

theorem infoChange : (Tryz.prog.info? 64).map (fun i => (i.zero, i.size, i.bytes)) = some (some (.agg #[.int .i64 0, .int .i64 0, .int .i64 0]), 3, 24) := by kernel_rfl
theorem append_rc {w : World} {ops : Array Oper} {rest : List Oper} {o : Oper} {a : Act} {Q : Exit → Act → World → Prop} (hgd : o.guard = none) (s x : Operand)
    (ho : o.op = .call { callee := .builtin .append, args := #[s, x], argTypes := #[28, 28] })
    (base : Nat) (v : Value) (l : List M.Chg) (hs : a.eval s = v) (hown : OwnC w base v l)
    (b m c : Nat) (l2 : List M.Chg) (hx : a.eval x = .slice (some ⟨b, 0, none⟩) m c) (hl2 : l2.length = m)
    (hc : ∀ i, i < m → w.cell? ⟨b, 0 + i * 3, none⟩ = some (.int .i64 (l2.getD i (0, 0, 0)).1) ∧ w.cell? ⟨b, 0 + i * 3 + 1, none⟩ = some (.int .i64 (l2.getD i (0, 0, 0)).2.1) ∧ w.cell? ⟨b, 0 + i * 3 + 2, none⟩ = some (.int .i64 (l2.getD i (0, 0, 0)).2.2))
    (hbig : l.length + m ≤ 1000000) (hbase : base ≤ w.heap.size)
    (h : ∀ v' w', OwnC w' base v' (l ++ l2) → Below base w w' → (∀ k, k < w.heap.size → v.ownBlock ≠ some k → w'.heap[k]? = w.heap[k]?) → wpList Tryz.prog ops Q rest (a.put o.dst v') w') : wpList Tryz.prog ops Q (o :: rest) a w := by
  obtain ⟨i0, hi, hz0, hz1, hz2⟩ := info_parts infoChange
  have hnews : ∀ j u, (encC l2)[j]? = some u → w.cell? ((⟨b, 0, none⟩ : Addr).add j) = some u := by
    intro j u hj
    have hjl : j < (encC l2).length := (List.getElem?_eq_some_iff.1 hj).1
    rw [encC_length, hl2] at hjl
    have hi2 : j / 3 < m := by omega
    have e := encC_at l2 (j / 3) (by omega)
    have q := hc (j / 3) hi2
    rw [Addr.add_lit]
    have h3 : j % 3 = 0 ∨ j % 3 = 1 ∨ j % 3 = 2 := by omega
    rcases h3 with h3 | h3 | h3
    · have ej : j = j / 3 * 3 := by omega
      rw [ej] at hj ⊢
      rw [e.1] at hj
      rw [← hj]; exact q.1
    · have ej : j = j / 3 * 3 + 1 := by omega
      rw [ej] at hj ⊢
      rw [e.2.1] at hj
      rw [← hj, ← Nat.add_assoc]; exact q.2.1
    · have ej : j = j / 3 * 3 + 2 := by omega
      rw [ej] at hj ⊢
      rw [e.2.2] at hj
      rw [← hj, ← Nat.add_assoc]; exact q.2.2
  refine wpList_append_own _ hgd s x 28 ho base 64 i0 (.agg #[.int .i64 0, .int .i64 0, .int .i64 0]) 3 24 Tryz.underlying28 hi hz0 hz1 hz2 rfl (by decide) v l.length (encC l) hs hown ⟨b, 0, none⟩ m c (encC l2) hx (by rw [encC_length, hl2]) hnews (encC_one l2)
    (by simp only [maxLen]; omega) (by omega) hbase ?_
  intro v' w' h1 h2 _
  refine h v' w' ?_ ((Below.refl _ _).grown h2 hbase fun k hk => (World.ownsRow.lt hown k hk).1) (fun k hk hne => h2.block k hk (fun e => hne e.symm))
  unfold OwnC
  rw [encC_append, List.length_append, hl2]
  exact h1
theorem rc_one (w : World) (x y z : Int) : ∀ i, i < 1 → (w.alloc (.cells #[.int .i64 x, .int .i64 y, .int .i64 z] 64)).cell? ⟨w.heap.size, 0 + i * 3, none⟩ = some (.int .i64 (([(x, y, z)] : List M.Chg).getD i (0, 0, 0)).1) ∧ (w.alloc (.cells #[.int .i64 x, .int .i64 y, .int .i64 z] 64)).cell? ⟨w.heap.size, 0 + i * 3 + 1, none⟩ = some (.int .i64 (([(x, y, z)] : List M.Chg).getD i (0, 0, 0)).2.1) ∧ (w.alloc (.cells #[.int .i64 x, .int .i64 y, .int .i64 z] 64)).cell? ⟨w.heap.size, 0 + i * 3 + 2, none⟩ = some (.int .i64 (([(x, y, z)] : List M.Chg).getD i (0, 0, 0)).2.2) := by
  intro i hi
  obtain rfl : i = 0 := by omega
  refine ⟨?_, ?_, ?_⟩ <;> simp [go_sem]
end Go.Proofs.YtcgpgflnihjpiagGreat

/- log.Write. -/
namespace Go.Proofs.YtcgpgflnihjpiagGreat
open Go.RowKit

theorem PenAt.base {w : World} {base b : Nat} {l : M.By} {ov : Bool} (h : PenAt w base b l ov) : base ≤ w.heap.size := by
  have := h.lt
  obtain ⟨_, _, h2, _⟩ := h
  omega
/-- One number of a byte, in a block of its own. -/
theorem pbyte1_any (b base : Nat) (l : M.By) (ov : Bool) (n : Int) (w : World) (hP : PenAt w base b l ov) (hll : l.length ≤ 400000) :
    Calls Tryz.prog 24 #[.pointer (some ⟨b, 0, none⟩), .slice (some ⟨w.heap.size, 0, none⟩) 1 1] (w.alloc (.cells #[.int .i64 n] 3)) fun e w' => (∃ v, e = .returned v) ∧ PenAt w' base b (M.pnL false (l, ov) [n]).1 (M.pnL false (l, ov) [n]).2 ∧ Below base w w' ∧ Kp w w' := by
  have hb0 : Below w.heap.size w (w.alloc (.cells #[.int .i64 n] 3)) := (Below.refl _ _).alloc (Nat.le_refl _) _
  have hW0 : (w.alloc (.cells #[.int .i64 n] 3)).heap[w.heap.size]? = some (.cells (([n] : List Int).map (Value.int .i64)).toArray 3 (0, 0)) := heap_alloc_new _ _
  refine (pbytes_any b base l ov (some ⟨w.heap.size, 0, none⟩) 1 1 [n] _ (hP.later hb0) (fun w' _ hk => ri_kept hW0 hk) (by omega) hll).mono ?_
  rintro e w1 ⟨h1, h2, h3, h4⟩
  exact ⟨h1, h2, (hb0.mono hP.base).trans h3, (Kp.of hb0).trans h4⟩
/-- Two numbers of two bytes. -/
theorem ppair2_any (b base : Nat) (l : M.By) (ov : Bool) (n k : Int) (w : World) (hP : PenAt w base b l ov) (hll : l.length ≤ 400000) :
    Calls Tryz.prog 26 #[.pointer (some ⟨b, 0, none⟩), .slice (some ⟨w.heap.size, 0, none⟩) 2 2] (w.alloc (.cells #[.int .i64 n, .int .i64 k] 3)) fun e w' => (∃ v, e = .returned v) ∧ PenAt w' base b (M.pnL true (l, ov) [n, k]).1 (M.pnL true (l, ov) [n, k]).2 ∧ Below base w w' ∧ Kp w w' := by
  have hb0 : Below w.heap.size w (w.alloc (.cells #[.int .i64 n, .int .i64 k] 3)) := (Below.refl _ _).alloc (Nat.le_refl _) _
  have hW0 : (w.alloc (.cells #[.int .i64 n, .int .i64 k] 3)).heap[w.heap.size]? = some (.cells (([n, k] : List Int).map (Value.int .i64)).toArray 3 (0, 0)) := heap_alloc_new _ _
  refine (ppairs_any b base l ov (some ⟨w.heap.size, 0, none⟩) 2 2 [n, k] _ (hP.later hb0) (fun w' _ hk => ri_kept hW0 hk) (by omega) hll).mono ?_
  rintro e w1 ⟨h1, h2, h3, h4⟩
  exact ⟨h1, h2, (hb0.mono hP.base).trans h3, (Kp.of hb0).trans h4⟩
/-- One more than a number, as the machine adds it: it can stand, or can not, alike. -/
theorem pnS_wrap (st : M.By × Bool) {n : Int} (h : M.inI n) : M.pnS true st (IntKind.i64.wrap (n + 1)) = M.pnS true st (n + 1) := by
  obtain ⟨h1, h2⟩ := h
  by_cases h3 : n = 9223372036854775807
  · subst h3
    have e : IntKind.i64.wrap (9223372036854775807 + 1) = -9223372036854775808 := by rw [IntKind.wrap_i64]; omega
    rw [e]
    unfold M.pnS M.pnB
    simp
  · have e : IntKind.i64.wrap (n + 1) = n + 1 := by rw [IntKind.wrap_i64]; omega
    rw [e]
theorem wC_wrap (st : M.By × Bool) (c : M.Chg) (h : M.inI c.2.1 ∧ M.inI c.2.2) : M.pnL true (M.pnL false st [c.1]) [IntKind.i64.wrap (c.2.1 + 1), IntKind.i64.wrap (c.2.2 + 1)] = M.wC st c := by
  show M.pnS true (M.pnS true _ _) _ = M.pnS true (M.pnS true _ _) _
  rw [pnS_wrap _ h.1, pnS_wrap _ h.2]

set_option maxRecDepth 100000 in
set_option maxHeartbeats 8000000 in
theorem write_any (x : M.Act) (a : Option Addr) (m cap : Nat) (w : World) (hrc : Rc w a m x.chs) (hm : m ≤ 9223372036854775807) (h1 : x.one.length ≤ 9223372036854775807) (h2 : x.two.length ≤ 9223372036854775807) (hrg : ∀ c ∈ x.chs, M.inI c.2.1 ∧ M.inI c.2.2) :
    Calls Tryz.prog 7 #[actV x a m cap] w fun e w' => e = .returned (.tuple #[.string (M.str (if (M.wA x).2 = true then [] else (M.wA x).1)), .int .i64 (if (M.wA x).2 = true then 3 else 0)]) ∧ Below w.heap.size w w' := by
  obtain ⟨p, hp⟩ : ∃ p, p = w.heap.size := ⟨_, rfl⟩
  obtain ⟨W1, hW1⟩ : ∃ W1, W1 = w.alloc (.cells #[.int .i64 x.kind, .string (M.str x.one), .string (M.str x.two), .slice a m cap] 30) := ⟨_, rfl⟩
  obtain ⟨W, hW⟩ : ∃ W, W = W1.alloc (.cells #[.slice none 0 0, .bool false] 69) := ⟨_, rfl⟩
  have hb1 : Below w.heap.size w W1 := by rw [hW1]; exact (Below.refl _ _).alloc (Nat.le_refl _) _
  have hb2 : Below W1.heap.size W1 W := by rw [hW]; exact (Below.refl _ _).alloc (Nat.le_refl _) _
  have hs1 : W1.heap.size = p + 1 := by rw [hW1, hp]; simp
  have hb : Below w.heap.size w W := hb1.trans (hb2.mono (by rw [hs1, hp]; omega))
  have HP0 : PenAt W (p + 1) (p + 1) [] false := by
    refine ⟨.slice none 0 0, ?_, Nat.le_refl _, ⟨rfl, Or.inl ⟨rfl, rfl⟩⟩⟩
    rw [hW, ← hs1]; exact heap_alloc_new _ _
  have hW10 : W1.heap[p]? = some (.cells #[.int .i64 x.kind, .string (M.str x.one), .string (M.str x.two), .slice a m cap] 30 (0, 0)) := by rw [hW1, hp]; exact heap_alloc_new _ _
  have HA : Hid (∀ V, Below (p + 1) W V → V.heap[p]? = some (.cells #[.int .i64 x.kind, .string (M.str x.one), .string (M.str x.two), .slice a m cap] 30 (0, 0))) := fun V hV => by
    rw [hV.block p (by omega), hb2.block p (by omega)]; exact hW10
  have hbp : ∀ V, Below (p + 1) W V → Below w.heap.size w V := fun V hV => hb.trans (hV.mono (by rw [← hp]; omega))
  have HRc : Hid (∀ V, Below (p + 1) W V → Rc V a m x.chs) := fun V hV => hrc.below (hbp V hV) (Nat.le_refl _)
  have HBp : Hid (∀ V, Below (p + 1) W V → Below w.heap.size w V) := hbp
  have HRg : Hid (∀ c ∈ x.chs, M.inI c.2.1 ∧ M.inI c.2.2) := hrg
  have HWn : Hid (∀ k, ((x.chs.take k).foldl M.wC (M.wA4 x)).1.length ≤ 10000) := M.wA_len x
  have hchl : x.chs.length = m := hrc.1
  have HLn : Aside (x.chs.length = m) := hchl
  have hl1 : (M.pnL false ([], false) [x.kind]).1.length ≤ 2 := M.pnL_len false ([], false) [x.kind]
  have hl2 := M.pnT_len (M.pnL false ([], false) [x.kind]) x.one
  have hl3 := M.pnT_len (M.pnT (M.pnL false ([], false) [x.kind]) x.one) x.two
  have H4 : Hid (M.wA4 x = M.pnL false (M.pnT (M.pnT (M.pnL false ([], false) [x.kind]) x.one) x.two) [(m : Int)]) := by rw [← hchl]; rfl
  have HWA : Hid (M.wA x = x.chs.foldl M.wC (M.wA4 x)) := rfl
  obtain ⟨s1, e1⟩ : ∃ s, s = M.pnL false ([], false) [x.kind] := ⟨_, rfl⟩
  obtain ⟨s2, e2⟩ : ∃ s, s = M.pnT s1 x.one := ⟨_, rfl⟩
  obtain ⟨s3, e3⟩ : ∃ s, s = M.pnT s2 x.two := ⟨_, rfl⟩
  rw [← e1] at hl1 hl2 hl3 H4
  rw [← e2] at hl2 hl3 H4
  rw [← e3] at hl3 H4
  have K1 := pbyte1_any (p + 1) (p + 1) [] false x.kind W HP0 (by simp)
  rw [← e1] at K1
  have K2 : ∀ V, PenAt V (p + 1) (p + 1) s1.1 s1.2 → Calls Tryz.prog 25 #[.pointer (some ⟨p + 1, 0, none⟩), .string (M.str x.one)] V fun e w' => (∃ v, e = .returned v) ∧ PenAt w' (p + 1) (p + 1) s2.1 s2.2 ∧ Below (p + 1) V w' ∧ Kp V w' := fun V hV => by
    rw [e2]; exact ptext_any (p + 1) (p + 1) s1.1 s1.2 x.one V hV h1 (by omega)
  have K3 : ∀ V, PenAt V (p + 1) (p + 1) s2.1 s2.2 → Calls Tryz.prog 25 #[.pointer (some ⟨p + 1, 0, none⟩), .string (M.str x.two)] V fun e w' => (∃ v, e = .returned v) ∧ PenAt w' (p + 1) (p + 1) s3.1 s3.2 ∧ Below (p + 1) V w' ∧ Kp V w' := fun V hV => by
    rw [e3]; exact ptext_any (p + 1) (p + 1) s2.1 s2.2 x.two V hV h2 (by omega)
  have K4 : ∀ V, PenAt V (p + 1) (p + 1) s3.1 s3.2 → Calls Tryz.prog 24 #[.pointer (some ⟨p + 1, 0, none⟩), .slice (some ⟨V.heap.size, 0, none⟩) 1 1] (V.alloc (.cells #[.int .i64 (m : Int)] 3)) fun e w' => (∃ v, e = .returned v) ∧ PenAt w' (p + 1) (p + 1) (M.wA4 x).1 (M.wA4 x).2 ∧ Below (p + 1) V w' ∧ Kp V w' := fun V hV => by
    rw [H4.out]; exact pbyte1_any (p + 1) (p + 1) s3.1 s3.2 m V hV (by omega)
  have HK1 : Hid (Calls Tryz.prog 24 #[.pointer (some ⟨p + 1, 0, none⟩), .slice (some ⟨W.heap.size, 0, none⟩) 1 1] (W.alloc (.cells #[.int .i64 x.kind] 3)) fun e w' => (∃ v, e = .returned v) ∧ PenAt w' (p + 1) (p + 1) s1.1 s1.2 ∧ Below (p + 1) W w' ∧ Kp W w') := K1
  have HK2 : Hid (∀ V, PenAt V (p + 1) (p + 1) s1.1 s1.2 → Calls Tryz.prog 25 #[.pointer (some ⟨p + 1, 0, none⟩), .string (M.str x.one)] V fun e w' => (∃ v, e = .returned v) ∧ PenAt w' (p + 1) (p + 1) s2.1 s2.2 ∧ Below (p + 1) V w' ∧ Kp V w') := K2
  have HK3 : Hid (∀ V, PenAt V (p + 1) (p + 1) s2.1 s2.2 → Calls Tryz.prog 25 #[.pointer (some ⟨p + 1, 0, none⟩), .string (M.str x.two)] V fun e w' => (∃ v, e = .returned v) ∧ PenAt w' (p + 1) (p + 1) s3.1 s3.2 ∧ Below (p + 1) V w' ∧ Kp V w') := K3
  have HK4 : Hid (∀ V, PenAt V (p + 1) (p + 1) s3.1 s3.2 → Calls Tryz.prog 24 #[.pointer (some ⟨p + 1, 0, none⟩), .slice (some ⟨V.heap.size, 0, none⟩) 1 1] (V.alloc (.cells #[.int .i64 (m : Int)] 3)) fun e w' => (∃ v, e = .returned v) ∧ PenAt w' (p + 1) (p + 1) (M.wA4 x).1 (M.wA4 x).2 ∧ Below (p + 1) V w' ∧ Kp V w') := K4
  have HW : Hid (W = (w.alloc (.cells #[.int .i64 x.kind, .string (M.str x.one), .string (M.str x.two), .slice a m cap] 30)).alloc (.cells #[.slice none 0 0, .bool false] 69)) := by rw [← hW1]; exact hW
  have hWs : W.heap.size = p + 1 + 1 := by rw [hW]; simp [hs1]
  rw [hWs] at HK1
  have HP : Aside (p = w.heap.size) := hp
  have blk := HA.out W (Below.refl _ _)
  have j0 : W.cell? ⟨p, 0, none⟩ = some (.int .i64 x.kind) := by rw [cell_of_row _ _ _ _ _ _ blk]; rfl
  rw [HW.out, HP.out] at j0
  obtain ⟨so8, hso8⟩ : ∃ so8, so8 = M.str (if (M.wA x).2 = true then [] else (M.wA x).1) := ⟨_, rfl⟩
  obtain ⟨e8, he8⟩ : ∃ e8 : Int, e8 = if (M.wA x).2 = true then 3 else 0 := ⟨_, rfl⟩
  rw [← hso8, ← he8]
  have H8 : Hid (so8 = M.str (if (M.wA x).2 = true then [] else (M.wA x).1)) := hso8
  have H9 : Hid (e8 = if (M.wA x).2 = true then 3 else 0) := he8
  unfold actV
  obtain ⟨kd, hkd⟩ : ∃ kd, kd = x.kind := ⟨_, rfl⟩
  obtain ⟨so, hso⟩ : ∃ so, so = M.str x.one := ⟨_, rfl⟩
  obtain ⟨st, hst⟩ : ∃ st, st = M.str x.two := ⟨_, rfl⟩
  rw [← hkd, ← hso, ← hst] at HA HW j0 ⊢
  rw [← hkd] at HK1
  rw [← hso] at HK2
  rw [← hst] at HK3
  clear hso8 he8 hkd hso hst blk K1 K2 K3 K4 e1 e2 e3 hl1 hl2 hl3 hrc hrg hchl hbp h1 h2 HP0 hW10 hW hW1 hb hb1 hb2 hs1 hp hWs
  go_enter Tryz.func7, Tryz.ntmps7
  go_wp2_with fail
  rw [← HW.out, ← HP.out]
  refine HK1.out.mono ?_
  rintro e w1 ⟨⟨v1, rfl⟩, q1, b1, _⟩
  have HQ1 : Hid (PenAt w1 (p + 1) (p + 1) s1.1 s1.2) := q1
  have blk := HA.out w1 b1
  clear j0
  have j1 : w1.cell? ⟨p, 1, none⟩ = some (.string so) := by rw [cell_of_row _ _ _ _ _ _ blk]; rfl
  clear blk q1
  go_wp2_with fail
  refine (HK2.out w1 HQ1.out).mono ?_
  rintro e w2 ⟨⟨v2, rfl⟩, q2, b2, _⟩
  have HQ2 : Hid (PenAt w2 (p + 1) (p + 1) s2.1 s2.2) := q2
  have c2 := b1.trans b2
  have blk := HA.out w2 c2
  clear j1
  have j2 : w2.cell? ⟨p, 2, none⟩ = some (.string st) := by rw [cell_of_row _ _ _ _ _ _ blk]; rfl
  clear blk q2 b1 b2
  go_wp2_with fail
  refine (HK3.out w2 HQ2.out).mono ?_
  rintro e w3 ⟨⟨v3, rfl⟩, q3, b3, _⟩
  have HQ3 : Hid (PenAt w3 (p + 1) (p + 1) s3.1 s3.2) := q3
  have c3 := c2.trans b3
  have blk := HA.out w3 c3
  clear j2
  have j3 : w3.cell? ⟨p, 3, none⟩ = some (.slice a m cap) := by rw [cell_of_row _ _ _ _ _ _ blk]; rfl
  clear blk q3 b3 c2
  go_wp2_with fail
  refine (HK4.out w3 HQ3.out).mono ?_
  rintro e w4 ⟨⟨v4, rfl⟩, q4, b4, _⟩
  have HQ4 : Aside (PenAt w4 (p + 1) (p + 1) (M.wA4 x).1 (M.wA4 x).2) := q4
  have c4 := c3.trans b4
  have blk := HA.out w4 c4
  clear j3
  have j4 : w4.cell? ⟨p, 3, none⟩ = some (.slice a m cap) := by rw [cell_of_row _ _ _ _ _ _ blk]; rfl
  clear blk q4 b4 c3 HK1 HK2 HK3 HK4
  go_wp2_with fail
  go_loopg [31] m (fun g i wr => ∃ k : Nat, k + g = m ∧ i = .int .i64 k ∧ Aside (PenAt wr (p + 1) (p + 1) ((x.chs.take k).foldl M.wC (M.wA4 x)).1 ((x.chs.take k).foldl M.wC (M.wA4 x)).2) ∧ Below (p + 1) W wr)
  case atStart => exact ⟨0, by omega, rfl, HQ4, c4⟩
  case round =>
    obtain ⟨k, hk, rfl, HPk, hbel⟩ := hrel
    clear j4
    by_cases hkm : k < m
    · have hki : (k : Int) < (m : Int) := by omega
      have hkn : k < x.chs.length := by rw [HLn.out]; exact hkm
      obtain ⟨ab, ao, rfl, hab, hc⟩ : ∃ ab ao, a = some ⟨ab, ao, none⟩ ∧ ab < wr.heap.size ∧ (wr.cell? ⟨ab, ao + k * 3, none⟩ = some (.int .i64 (x.chs.getD k (0, 0, 0)).1) ∧ wr.cell? ⟨ab, ao + k * 3 + 1, none⟩ = some (.int .i64 (x.chs.getD k (0, 0, 0)).2.1) ∧ wr.cell? ⟨ab, ao + k * 3 + 2, none⟩ = some (.int .i64 (x.chs.getD k (0, 0, 0)).2.2)) := by
        rcases (HRc.out wr hbel).cases with ⟨h0, _⟩ | ⟨ab, ao, e, _, _, hB, hc⟩
        · omega
        · exact ⟨ab, ao, e, hB, hc k hkm⟩
      have hmem : x.chs.getD k (0, 0, 0) ∈ x.chs := by
        have : x.chs.getD k (0, 0, 0) = x.chs[k] := by simp [List.getD, hkn]
        rw [this]; exact List.getElem_mem hkn
      have hst := M.wC_take (M.wA4 x) x.chs k hkn
      have hrg := HRg.out _ hmem
      obtain ⟨c, hcc⟩ : ∃ c, c = x.chs.getD k (0, 0, 0) := ⟨_, rfl⟩
      rw [← hcc] at hc hst hrg
      rw [← wC_wrap _ _ hrg] at hst
      obtain ⟨x0, x1, x2⟩ := c
      obtain ⟨ck, c1, c2⟩ := hc
      simp only at ck c1 c2 hst
      obtain ⟨z1, hz1⟩ : ∃ z, z = IntKind.i64.wrap (x1 + 1) := ⟨_, rfl⟩
      obtain ⟨z2, hz2⟩ : ∃ z, z = IntKind.i64.wrap (x2 + 1) := ⟨_, rfl⟩
      rw [← hz1, ← hz2] at hst
      have y1 : wrap64 (x1 + 1) = z1 := by rw [hz1]; exact (IntWalk.i64_left _).symm
      have y2 : wrap64 (x2 + 1) = z2 := by rw [hz2]; exact (IntWalk.i64_left _).symm
      have hlk : ((x.chs.take k).foldl M.wC (M.wA4 x)).1.length ≤ 10000 := HWn.out k
      generalize (x.chs.take k).foldl M.wC (M.wA4 x) = sk at *
      obtain ⟨lk, ok⟩ := sk
      simp only at hlk HPk
      obtain ⟨W5, hW5⟩ : ∃ W5, W5 = wr.alloc (.cells #[.int .i64 x0, .int .i64 x1, .int .i64 x2] 64) := ⟨_, rfl⟩
      have hb5 : Below wr.heap.size wr W5 := by rw [hW5]; exact (Below.refl _ _).alloc (Nat.le_refl _) _
      have h50 : W5.heap[wr.heap.size]? = some (.cells #[.int .i64 x0, .int .i64 x1, .int .i64 x2] 64 (0, 0)) := by rw [hW5]; exact heap_alloc_new _ _
      have HC5 : Hid (∀ V, Kp W5 V → V.heap[wr.heap.size]? = some (.cells #[.int .i64 x0, .int .i64 x1, .int .i64 x2] 64 (0, 0))) := fun V hV => hV _ _ _ (by decide) (by decide) h50
      have hbel5 : Below (p + 1) W W5 := hbel.trans (hb5.mono HPk.out.base)
      have hl5 := M.pnL_len false (lk, ok) [x0]
      have hw5s : W5.heap.size = wr.heap.size + 1 := by rw [hW5]; simp
      obtain ⟨s5, hs5⟩ : ∃ s, s = M.pnL false (lk, ok) [x0] := ⟨_, rfl⟩
      rw [← hs5] at hst hl5
      have K5 := pbyte1_any (p + 1) (p + 1) lk ok x0 W5 (HPk.out.later hb5) (by omega)
      rw [← hs5, hw5s] at K5
      have HK5 : Hid (Calls Tryz.prog 24 #[.pointer (some ⟨p + 1, 0, none⟩), .slice (some ⟨wr.heap.size + 1, 0, none⟩) 1 1] (W5.alloc (.cells #[.int .i64 x0] 3)) fun e w' => (∃ v, e = .returned v) ∧ PenAt w' (p + 1) (p + 1) s5.1 s5.2 ∧ Below (p + 1) W5 w' ∧ Kp W5 w') := K5
      have HK6 : Hid (∀ V, PenAt V (p + 1) (p + 1) s5.1 s5.2 → Calls Tryz.prog 26 #[.pointer (some ⟨p + 1, 0, none⟩), .slice (some ⟨V.heap.size, 0, none⟩) 2 2] (V.alloc (.cells #[.int .i64 z1, .int .i64 z2] 3)) fun e w' => (∃ v, e = .returned v) ∧ PenAt w' (p + 1) (p + 1) (M.pnL true s5 [z1, z2]).1 (M.pnL true s5 [z1, z2]).2 ∧ Below (p + 1) V w' ∧ Kp V w') := fun V hV =>
        ppair2_any (p + 1) (p + 1) s5.1 s5.2 _ _ V hV (by simp at hl5; omega)
      have HSt : Hid ((x.chs.take (k + 1)).foldl M.wC (M.wA4 x) = M.pnL true s5 [z1, z2]) := hst
      have d0 : W5.cell? ⟨wr.heap.size, 0, none⟩ = some (.int .i64 x0) := by rw [cell_of_row _ _ _ _ _ _ h50]; rfl
      have HW5 : Hid (W5 = wr.alloc (.cells #[.int .i64 x0, .int .i64 x1, .int .i64 x2] 64)) := hW5
      rw [hW5] at d0
      clear hz1 hz2 hst hs5 hcc hl5 K5 h50 hb5 hW5 hmem hrg hw5s hlk
      go_wp2_with fail
      rw [← HW5.out]
      refine HK5.out.mono ?_
      rintro e w6 ⟨⟨v6, rfl⟩, q6, b6, k6⟩
      have blk := HC5.out w6 k6
      have d1 : w6.cell? ⟨wr.heap.size, 1, none⟩ = some (.int .i64 x1) := by rw [cell_of_row _ _ _ _ _ _ blk]; rfl
      have d2 : w6.cell? ⟨wr.heap.size, 2, none⟩ = some (.int .i64 x2) := by rw [cell_of_row _ _ _ _ _ _ blk]; rfl
      have HQ6 : Hid (PenAt w6 (p + 1) (p + 1) s5.1 s5.2) := q6
      have c6 := hbel5.trans b6
      clear blk q6 b6 k6 ck c1 c2 d0
      go_wp2_with fail
      refine (HK6.out w6 HQ6.out).mono ?_
      rintro e w7 ⟨⟨v7, rfl⟩, q7, b7, _⟩
      rw [← HSt.out] at q7
      have HQ7 : Aside (PenAt w7 (p + 1) (p + 1) ((x.chs.take (k + 1)).foldl M.wC (M.wA4 x)).1 ((x.chs.take (k + 1)).foldl M.wC (M.wA4 x)).2) := q7
      have c7 := c6.trans b7
      clear q7 b7 d1 d2 HK5 HK6
      go_wp2
      go_roundg (gk - 1)
      case measure => omega
      case rel => exact ⟨k + 1, by omega, by go_num, HQ7, c7⟩
    · obtain rfl : k = m := by omega
      have hkk2 : decide ((k : Int) < (k : Int)) = false := by simp
      have e1 : x.chs.take k = x.chs := List.take_of_length_le (by rw [HLn.out]; exact Nat.le_refl _)
      have K8 := written_any (p + 1) (p + 1) _ _ wr HPk.out
      rw [e1, ← HWA.out] at K8
      rw [← H8.out, ← H9.out] at K8
      have HK8 : Hid (Calls Tryz.prog 27 #[.pointer (some ⟨p + 1, 0, none⟩)] wr fun e w' => e = .returned (.tuple #[.string so8, .int .i64 e8]) ∧ Below wr.heap.size wr w') := K8
      have hpb : p + 1 ≤ wr.heap.size := HPk.out.base
      clear e1 K8
      go_wp2_with fail
      refine HK8.out.mono ?_
      rintro e w9 ⟨rfl, b9⟩
      have c9 := HBp.out _ (hbel.trans (b9.mono hpb))
      clear b9
      go_wp2
      go_ret2
      exact ⟨rfl, c9⟩
end Go.Proofs.YtcgpgflnihjpiagGreat

/- The reader of bytes: take, Byte, Pair, Text. -/
namespace Go.Proofs.YtcgpgflnihjpiagGreat
open Go.RowKit

/-- All but the block b is as it was. -/
def But (b : Nat) (w w' : World) : Prop := w.grownBy w' (some b)
theorem But.refl (b : Nat) (w : World) : But b w w := ⟨rfl, rfl, rfl, Nat.le_refl _, fun _ _ _ => rfl⟩
theorem But.trans {b : Nat} {w1 w2 w3 : World} (h : But b w1 w2) (k : But b w2 w3) : But b w1 w3 :=
  ⟨k.os.trans h.os, k.tape.trans h.tape, k.output.trans h.output, Nat.le_trans h.size k.size, fun i hi hne => (k.block i (Nat.lt_of_lt_of_le hi h.size) hne).trans (h.block i hi hne)⟩
theorem But.below {b : Nat} {w w' : World} (h : But b w w') (hb : b ≤ w.heap.size) : Below b w w' := ⟨h.os, h.tape, h.output, h.size, fun k hk => h.block k (by omega) (fun e => by cases e; omega)⟩
theorem But.of {b : Nat} {w w' : World} (h : Below w.heap.size w w') : But b w w' := ⟨h.os, h.tape, h.output, h.size, fun k hk _ => h.block k hk⟩
theorem But.set (b o : Nat) (w : World) (v : Value) : But b w (w.setCell ⟨b, o, none⟩ v) := grownBy_set w ⟨b, o, none⟩ v
/-- What is left to be read lies in the block b. -/
def RdAt (w : World) (b : Nat) (l : M.By) : Prop := w.heap[b]? = some (.cells #[.string (M.str l)] 101 (0, 0)) ∧ l.length ≤ 9223372036854775807
theorem RdAt.cell {w : World} {b : Nat} {l : M.By} (h : RdAt w b l) : w.cell? ⟨b, 0, none⟩ = some (.string (M.str l)) := by rw [cell_of_row _ _ _ _ _ _ h.1]; rfl
theorem RdAt.fr {w : World} {b : Nat} {l : M.By} (h : RdAt w b l) : w.frozen? ⟨b, 0, none⟩ = false := frozen_of_row _ _ _ _ _ h.1
theorem RdAt.lt {w : World} {b : Nat} {l : M.By} (h : RdAt w b l) : b < w.heap.size := (Array.getElem?_eq_some_iff.1 h.1).1
theorem RdAt.set {w : World} {b : Nat} {l : M.By} (h : RdAt w b l) (l' : M.By) (hl : l'.length ≤ l.length) : RdAt (w.setCell ⟨b, 0, none⟩ (.string (M.str l'))) b l' := ⟨by rw [heap_setCell_same _ _ _ _ _ _ h.1]; rfl, by have := h.2; omega⟩
theorem RdAt.later {w w' : World} {b : Nat} {l : M.By} (h : RdAt w b l) (hb : Below w.heap.size w w') : RdAt w' b l := ⟨(hb.block b h.lt).trans h.1, h.2⟩
/-- It ends too early. -/
def early : Ending := .panicked [{ v := .iface 25 (.int .i64 1), recovered := false }]

set_option maxHeartbeats 2000000 in
theorem take_any (b n : Nat) (l : M.By) (w : World) (h : RdAt w b l) :
    Calls Tryz.prog 107 #[.pointer (some ⟨b, 0, none⟩), .int .i64 (n : Int)] w fun e w' => But b w w' ∧ ((n ≤ l.length ∧ e = .returned (.string (M.str (l.take n))) ∧ RdAt w' b (l.drop n)) ∨ (l.length < n ∧ e = early)) := by
  obtain ⟨s, hs⟩ : ∃ s, s = M.str l := ⟨_, rfl⟩
  obtain ⟨m, hm⟩ : ∃ m, m = l.length := ⟨_, rfl⟩
  have hsz : s.size = m := by rw [hs, M.str_size, hm]
  have c0 := h.cell
  have f0 := h.fr
  rw [← hs] at c0
  by_cases hn : n ≤ l.length
  · have e1 : s.extract 0 n = M.str (l.take n) := by rw [hs, M.str_take]
    have e2 : s.extract n m = M.str (l.drop n) := by rw [hs, M.str_drop l n m hm]
    have h1 : decide ((m : Int) < (n : Int)) = false := by simp; omega
    have h2 : (n : Int) ≤ (m : Int) := by omega
    have HR : Hid (RdAt (w.setCell ⟨b, 0, none⟩ (.string (M.str (l.drop n)))) b (l.drop n)) := h.set _ (by simp)
    have HN : Hid (n ≤ l.length) := hn
    clear h hs hm hn
    go_enter Tryz.func107, Tryz.ntmps107
    go_wp2
    go_ret
    exact ⟨But.set _ _ _ _, Or.inl ⟨HN.out, rfl, HR.out⟩⟩
  · have h1 : decide ((m : Int) < (n : Int)) = true := by simp; omega
    have h2 : (m : Int) < (n : Int) := by omega
    have HN : Hid (l.length < n) := by unfold Hid; omega
    clear h hs hm hn
    go_enter Tryz.func107, Tryz.ntmps107
    go_wp2
    exact ⟨rfl, But.refl _ _, Or.inr ⟨HN.out, rfl⟩⟩

/-- What is read, and what is left. -/
def Reads {α : Type} (b : Nat) (w w' : World) (r : Option (α × M.By)) (val : α → Value → World → Prop) (e : Ending) : Prop :=
  But b w w' ∧ ((∃ x t v, r = some (x, t) ∧ e = .returned v ∧ val x v w' ∧ RdAt w' b t) ∨ (r = none ∧ e = early))
def isInt (k : Int) (v : Value) (_ : World) : Prop := v = .int .i64 k
def isStr (l : M.By) (v : Value) (_ : World) : Prop := v = .string (M.str l)

set_option maxHeartbeats 2000000 in
theorem byte_any (b : Nat) (l : M.By) (w : World) (h : RdAt w b l) :
    Calls Tryz.prog 63 #[.pointer (some ⟨b, 0, none⟩)] w fun e w' => Reads b w w' (M.rB l) isInt e := by
  have K : Hid (Calls Tryz.prog 107 #[.pointer (some ⟨b, 0, none⟩), .int .i64 1] w fun e w' => But b w w' ∧ ((1 ≤ l.length ∧ e = .returned (.string (M.str (l.take 1))) ∧ RdAt w' b (l.drop 1)) ∨ (l.length < 1 ∧ e = early))) := take_any b 1 l w h
  clear h
  cases l with
  | nil =>
    go_enter Tryz.func63, Tryz.ntmps63
    go_wp2_with fail
    refine K.out.mono ?_
    rintro e w1 ⟨hb, ⟨h1, _⟩ | ⟨_, rfl⟩⟩
    · simp at h1
    · unfold early
      go_wp2
      exact ⟨rfl, hb, Or.inr ⟨rfl, rfl⟩⟩
  | cons x t =>
    have e1 : M.str ((x :: t).take 1) = ⟨#[x]⟩ := rfl
    rw [e1] at K
    have hx : wrap64 (x.toNat : Int) = (x.toNat : Int) := by have := x.toNat_lt; unfold wrap64; omega
    have HX : Hid (wrap64 (x.toNat : Int) = (x.toNat : Int)) := hx
    clear hx
    go_enter Tryz.func63, Tryz.ntmps63
    go_wp2_with fail
    refine K.out.mono ?_
    rintro e w1 ⟨hb, ⟨_, rfl, hr⟩ | ⟨h1, _⟩⟩
    · have HR : Hid (RdAt w1 b t) := hr
      clear hr
      go_wp2
      go_ret
      exact ⟨hb, Or.inl ⟨_, t, _, rfl, rfl, congrArg (Value.int .i64) HX.out, HR.out⟩⟩
    · simp at h1
theorem M.rB_range {l t : M.By} {k : Int} (h : M.rB l = some (k, t)) : 0 ≤ k ∧ k < 256 := (M.rB_inv h).2
theorem M.r2_yes {l t u : M.By} {k j : Int} (h : M.rB l = some (k, t)) (h2 : M.rB t = some (j, u)) : M.r2 l = some (256 * k + j, u) := by
  match l, t, h, h2 with
  | x :: y :: v, _, h, h2 =>
    simp only [M.rB, Option.some.injEq, Prod.mk.injEq] at h
    obtain ⟨rfl, rfl⟩ := h
    simp only [M.rB, Option.some.injEq, Prod.mk.injEq] at h2
    obtain ⟨rfl, rfl⟩ := h2
    rfl
  | [x], _, h, h2 =>
    simp only [M.rB, Option.some.injEq, Prod.mk.injEq] at h
    obtain ⟨rfl, rfl⟩ := h
    simp [M.rB] at h2
  | [], _, h, _ => simp [M.rB] at h
theorem M.r2_no1 {l : M.By} (h : M.rB l = none) : M.r2 l = none := by
  cases l with
  | nil => rfl
  | cons x t => simp [M.rB] at h
theorem M.r2_no2 {l t : M.By} {k : Int} (h : M.rB l = some (k, t)) (h2 : M.rB t = none) : M.r2 l = none := by
  match l, h with
  | x :: y :: v, h =>
    simp only [M.rB, Option.some.injEq, Prod.mk.injEq] at h
    obtain ⟨rfl, rfl⟩ := h
    simp [M.rB] at h2
  | [x], _ => rfl
  | [], h => simp [M.rB] at h
theorem M.rT_yes {l t : M.By} {k : Int} (h : M.rB l = some (k, t)) : M.rT l = if k.toNat ≤ t.length then some (t.take k.toNat, t.drop k.toNat) else none := by
  cases l with
  | nil => simp [M.rB] at h
  | cons x u =>
    simp only [M.rB, Option.some.injEq, Prod.mk.injEq] at h
    obtain ⟨rfl, rfl⟩ := h
    rfl
theorem M.rT_no {l : M.By} (h : M.rB l = none) : M.rT l = none := by
  cases l with
  | nil => rfl
  | cons x t => simp [M.rB] at h

set_option maxHeartbeats 2000000 in
theorem pair_any (b : Nat) (l : M.By) (w : World) (h : RdAt w b l) :
    Calls Tryz.prog 108 #[.pointer (some ⟨b, 0, none⟩)] w fun e w' => Reads b w w' (M.r2 l) isInt e := by
  have K : Hid (Calls Tryz.prog 63 #[.pointer (some ⟨b, 0, none⟩)] w fun e w' => Reads b w w' (M.rB l) isInt e) := byte_any b l w h
  clear h
  go_enter Tryz.func108, Tryz.ntmps108
  go_wp2_with fail
  refine K.out.mono ?_
  rintro e w1 ⟨hb, ⟨k, t, v, h1, rfl, rfl, hr⟩ | ⟨h1, rfl⟩⟩
  · have K2 : Hid (Calls Tryz.prog 63 #[.pointer (some ⟨b, 0, none⟩)] w1 fun e w' => Reads b w1 w' (M.rB t) isInt e) := byte_any b t w1 hr
    have H1 : Hid (M.rB l = some (k, t)) := h1
    have hk := M.rB_range h1
    have hw : IntKind.i64.wrap (256 * k) = 256 * k := by rw [IntKind.wrap_i64]; omega
    clear h1 hr K
    go_wp2_with fail
    refine K2.out.mono ?_
    rintro e w2 ⟨hb2, ⟨j, u, v, h2, rfl, rfl, hr⟩ | ⟨h2, rfl⟩⟩
    · have H2 : Hid (M.rB t = some (j, u)) := h2
      have HR : Hid (RdAt w2 b u) := hr
      have hj := M.rB_range h2
      have hw2 : IntKind.i64.wrap (256 * k + j) = 256 * k + j := by rw [IntKind.wrap_i64]; omega
      clear h2 hr K2
      go_wp2
      go_ret
      exact ⟨hb.trans hb2, Or.inl ⟨_, u, _, M.r2_yes H1.out H2.out, rfl, rfl, HR.out⟩⟩
    · have H2 : Hid (M.rB t = none) := h2
      clear h2 K2
      unfold early
      go_wp2
      exact ⟨rfl, hb.trans hb2, Or.inr ⟨M.r2_no2 H1.out H2.out, rfl⟩⟩
  · have H1 : Hid (M.rB l = none) := h1
    clear h1 K
    unfold early
    go_wp2
    exact ⟨rfl, hb, Or.inr ⟨M.r2_no1 H1.out, rfl⟩⟩

set_option maxHeartbeats 2000000 in
theorem text_any (b : Nat) (l : M.By) (w : World) (h : RdAt w b l) :
    Calls Tryz.prog 64 #[.pointer (some ⟨b, 0, none⟩)] w fun e w' => Reads b w w' (M.rT l) isStr e := by
  have K : Hid (Calls Tryz.prog 63 #[.pointer (some ⟨b, 0, none⟩)] w fun e w' => Reads b w w' (M.rB l) isInt e) := byte_any b l w h
  clear h
  go_enter Tryz.func64, Tryz.ntmps64
  go_wp2_with fail
  refine K.out.mono ?_
  rintro e w1 ⟨hb, ⟨k, t, v, h1, rfl, rfl, hr⟩ | ⟨h1, rfl⟩⟩
  · have hk := M.rB_range h1
    obtain ⟨n, rfl⟩ : ∃ n : Nat, k = (n : Int) := ⟨k.toNat, by omega⟩
    have K2 : Hid (Calls Tryz.prog 107 #[.pointer (some ⟨b, 0, none⟩), .int .i64 (n : Int)] w1 fun e w' => But b w1 w' ∧ ((n ≤ t.length ∧ e = .returned (.string (M.str (t.take n))) ∧ RdAt w' b (t.drop n)) ∨ (t.length < n ∧ e = early))) := take_any b n t w1 hr
    have H1 : Hid (M.rT l = if n ≤ t.length then some (t.take n, t.drop n) else none) := M.rT_yes h1
    clear h1 hr K
    go_wp2_with fail
    refine K2.out.mono ?_
    rintro e w2 ⟨hb2, ⟨h2, rfl, hr⟩ | ⟨h2, rfl⟩⟩
    · have HR : Hid (RdAt w2 b (t.drop n)) := hr
      have H2 : Hid (n ≤ t.length) := h2
      clear h2 hr K2
      go_wp2
      go_ret
      exact ⟨hb.trans hb2, Or.inl ⟨_, _, _, by rw [H1.out, if_pos H2.out], rfl, rfl, HR.out⟩⟩
    · have H2 : Hid (t.length < n) := h2
      clear h2 K2
      unfold early
      go_wp2
      exact ⟨rfl, hb.trans hb2, Or.inr ⟨by rw [H1.out, if_neg (by have := H2.out; omega)], rfl⟩⟩
  · have H1 : Hid (M.rB l = none) := h1
    clear h1 K
    unfold early
    go_wp2
    exact ⟨rfl, hb, Or.inr ⟨M.rT_no H1.out, rfl⟩⟩
end Go.Proofs.YtcgpgflnihjpiagGreat
