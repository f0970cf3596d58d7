/- For every repo and every text, the law WireWrites returns true and leaves its arguments as they were: wire.Write and wire.Read answer just what the document says, errors too. No condition. -/
import Derived.Test.YtcgpgflnihjpiagRdrG
import Derived.Test.YtcgpgflnihjpiagByt2
import Derived.Test.YtcgpgflnihjpiagKApp
import Derived.Test.YtcgpgflnihjpiagAp2
import Derived.Test.YtcgpgflnihjpiagRdr6
import Derived.Test.YtcgpgflnihjpiagRBytes
import Derived.Test.YtcgpgflnihjpiagRRepo1
import Derived.Test.YtcgpgflnihjpiagResS
import Derived.Test.YtcgpgflnihjpiagWBg
import Derived.Test.YtcgpgflnihjpiagOpenW
namespace Go.Proofs.Ytcgpgflnihjpiag
open Go.RowKit

/-- What is left to be heard lies in the block b. -/
def EarAt (w : World) (b : Nat) (l : M.By) : Prop := w.heap[b]? = some (.cells #[.string (M.str l)] 67 (0, 0)) ∧ l.length ≤ 9223372036854775807
theorem EarAt.cell {w : World} {b : Nat} {l : M.By} (h : EarAt w b l) : w.cell? ⟨b, 0, none⟩ = some (.string (M.str l)) := by rw [cell_of_row _ _ _ _ _ _ h.1]; rfl
theorem EarAt.fr {w : World} {b : Nat} {l : M.By} (h : EarAt w b l) : w.frozen? ⟨b, 0, none⟩ = false := frozen_of_row _ _ _ _ _ h.1
theorem EarAt.lt {w : World} {b : Nat} {l : M.By} (h : EarAt w b l) : b < w.heap.size := (Array.getElem?_eq_some_iff.1 h.1).1
theorem EarAt.set {w : World} {b : Nat} {l : M.By} (h : EarAt w b l) (l' : M.By) (hl : l'.length ≤ l.length) : EarAt (w.setCell ⟨b, 0, none⟩ (.string (M.str l'))) b l' := ⟨by rw [heap_setCell_same _ _ _ _ _ _ h.1]; rfl, by have := h.2; omega⟩
theorem EarAt.keep {w w' : World} {b : Nat} {l : M.By} (h : EarAt w b l) (hb : w'.heap[b]? = w.heap[b]?) : EarAt w' b l := ⟨hb.trans h.1, h.2⟩

set_option maxHeartbeats 2000000 in
theorem ebyte_any (b : Nat) (l : M.By) (w : World) (h : EarAt w b l) :
    Calls Try.prog 27 #[.pointer (some ⟨b, 0, none⟩)] w fun e w' => e = .returned (.int .i64 (M.eB l).1) ∧ EarAt w' b (M.eB l).2 ∧ But b w w' := by
  have c0 := h.cell
  have f0 := h.fr
  have HE : Hid (EarAt w b l) := h
  cases l with
  | nil =>
    clear h
    have e0 : M.str ([] : M.By) = ⟨#[]⟩ := rfl
    rw [e0] at c0
    go_enter Try.func27, Try.ntmps27
    go_wp2
    go_ret
    exact ⟨rfl, HE.out, But.refl _ _⟩
  | cons x t =>
    obtain ⟨s, hs⟩ : ∃ s, s = M.str (x :: t) := ⟨_, rfl⟩
    obtain ⟨m, hm⟩ : ∃ m, m = t.length + 1 := ⟨_, rfl⟩
    have hsz : s.size = m := by rw [hs, M.str_size, hm]; rfl
    have hm63 : m ≤ 9223372036854775807 := by have := h.2; rw [hm]; simpa using this
    have hm1 : (1 : Int) ≤ (m : Int) := by omega
    have hi0 : ∀ (h : 0 < s.size), ((s[0]'h).toNat : Int) = (x.toNat : Int) := fun h => by
      have e : s[0]'h = x := by
        have : (M.str (x :: t)).data[0]'(by simp [M.str]) = x := by simp [M.str]
        subst hs
        exact this
      rw [e]
    have e1 : s.extract 1 m = M.str t := by rw [hs, M.str_drop (x :: t) 1 m (by rw [hm]; rfl)]; rfl
    have hne : s.toList.isEmpty = false := by rw [ByteArray.toList_eq, hs]; rfl
    have hx := x.toNat_lt
    have HX : Hid (EarAt (w.setCell ⟨b, 0, none⟩ (.string (M.str t))) b t) := h.set t (by simp)
    rw [← hs] at c0
    obtain ⟨xn, hxn⟩ : ∃ xn, xn = x.toNat := ⟨_, rfl⟩
    rw [← hxn] at hi0 hx
    have HXn : Hid ((M.eB (x :: t)).1 = (xn : Int)) := by rw [hxn]; rfl
    have hxw : wrap64 (xn : Int) = (xn : Int) := by unfold wrap64; omega
    clear h hs hm hxn
    go_enter Try.func27, Try.ntmps27
    go_wp2
    go_ret
    exact ⟨by rw [HXn.out]; rfl, HX.out, But.set _ _ _ _⟩

set_option maxHeartbeats 2000000 in
theorem etwo_any (b : Nat) (l : M.By) (w : World) (h : EarAt w b l) :
    Calls Try.prog 28 #[.pointer (some ⟨b, 0, none⟩)] w fun e w' => e = .returned (.int .i64 (M.e2 l).1) ∧ EarAt w' b (M.e2 l).2 ∧ But b w w' := by
  obtain ⟨n, hn⟩ : ∃ n, n = (M.eB l).1 := ⟨_, rfl⟩
  obtain ⟨l1, hl1⟩ : ∃ l1, l1 = (M.eB l).2 := ⟨_, rfl⟩
  obtain ⟨k, hk⟩ : ∃ k, k = (M.eB l1).1 := ⟨_, rfl⟩
  obtain ⟨l2, hl2⟩ : ∃ l2, l2 = (M.eB l1).2 := ⟨_, rfl⟩
  have K := ebyte_any b l w h
  rw [← hn, ← hl1] at K
  have HK : Hid (Calls Try.prog 27 #[.pointer (some ⟨b, 0, none⟩)] w fun e w' => e = .returned (.int .i64 n) ∧ EarAt w' b l1 ∧ But b w w') := K
  have HK2 : Hid (∀ V, EarAt V b l1 → Calls Try.prog 27 #[.pointer (some ⟨b, 0, none⟩)] V fun e w' => e = .returned (.int .i64 k) ∧ EarAt w' b l2 ∧ But b V w') := fun V hV => by
    have := ebyte_any b l1 V hV
    rw [← hk, ← hl2] at this
    exact this
  have hr := M.eB_range l
  rw [← hn] at hr
  have hr2 := M.eB_range l1
  rw [← hk] at hr2
  have HE : Hid (M.e2 l = (256 * n + k, l2)) := by unfold Hid M.e2; rw [hn, hk, hl2, hl1]
  clear hn hl1 hk hl2 K h
  go_enter Try.func28, Try.ntmps28
  go_wp2_with fail
  refine HK.out.mono ?_
  rintro e w1 ⟨rfl, e1, b1⟩
  have HE1 : Hid (EarAt w1 b l1) := e1
  have hw : IntKind.i64.wrap (256 * n) = 256 * n := by rw [IntKind.wrap_i64]; omega
  have hw2 : IntKind.i64.wrap (256 * n + k) = 256 * n + k := by rw [IntKind.wrap_i64]; omega
  clear e1 HK
  go_wp2_with fail
  refine (HK2.out w1 HE1.out).mono ?_
  rintro e w2 ⟨rfl, e2, b2⟩
  have HE2 : Hid (EarAt w2 b l2) := e2
  clear e2 HK2
  go_wp2
  go_ret
  rw [HE.out]
  exact ⟨rfl, HE2.out, b1.trans b2⟩
end Go.Proofs.Ytcgpgflnihjpiag

namespace Go.Proofs.Ytcgpgflnihjpiag
open Go.RowKit

/-- All blocks below q but b are as they were. -/
structure Bq (b q : Nat) (w w' : World) : Prop where
  os : w'.os = w.os
  tape : w'.tape = w.tape
  output : w'.output = w.output
  size : w.heap.size ≤ w'.heap.size
  blk : ∀ k, k < q → k ≠ b → w'.heap[k]? = w.heap[k]?
theorem Bq.refl (b q : Nat) (w : World) : Bq b q w w := ⟨rfl, rfl, rfl, Nat.le_refl _, fun _ _ _ => rfl⟩
theorem Bq.trans {b q : Nat} {w1 w2 w3 : World} (h : Bq b q w1 w2) (k : Bq b q w2 w3) : Bq b q w1 w3 :=
  ⟨k.os.trans h.os, k.tape.trans h.tape, k.output.trans h.output, Nat.le_trans h.size k.size, fun i hi hne => (k.blk i hi hne).trans (h.blk i hi hne)⟩
theorem Bq.mono {b q q' : Nat} {w w' : World} (h : Bq b q w w') (hq : q' ≤ q) : Bq b q' w w' := ⟨h.os, h.tape, h.output, h.size, fun k hk hne => h.blk k (by omega) hne⟩
theorem Bq.but {b : Nat} {w w' : World} (h : But b w w') : Bq b w.heap.size w w' := ⟨h.os, h.tape, h.output, h.size, fun k hk hne => h.block k hk (fun e => hne (Option.some.inj e))⟩
theorem Bq.below {b q : Nat} {w w' : World} (h : Below q w w') : Bq b q w w' := ⟨h.os, h.tape, h.output, h.size, fun k hk _ => h.block k hk⟩
theorem Bq.set {b q : Nat} {w w' : World} (h : Bq b q w w') {r o : Nat} (hr : q ≤ r) (v : Value) : Bq b q w (w'.setCell ⟨r, o, none⟩ v) :=
  ⟨h.os, h.tape, h.output, by simpa [World.setCell] using h.size, fun k hk hne => by rw [heap_setCell_other _ _ _ _ (by show k ≠ r; omega)]; exact h.blk k hk hne⟩
theorem Bq.grown {b q : Nat} {w w' : World} {r : Option Nat} (h : w.grownBy w' r) (hr : ∀ k, r = some k → q ≤ k) (hq : q ≤ w.heap.size) : Bq b q w w' :=
  ⟨h.os, h.tape, h.output, h.size, fun k hk _ => h.block k (by omega) (fun e => by have := hr k e.symm; omega)⟩
theorem Bq.belowW {b q B : Nat} {w w' : World} (h : Bq b q w w') (hB : B ≤ q) (hb : B ≤ b) : Below B w w' := ⟨h.os, h.tape, h.output, h.size, fun k hk => h.blk k (by omega) (by omega)⟩
theorem own_same {b base : Nat} {w w' : World} {e : TypeId} {size : Nat} {v : Value} {n : Nat} {xs : List Value} (h : w.ownsRow base e size v n xs) (hq : Bq b w.heap.size w w') (hb : b < base) : w'.ownsRow base e size v n xs :=
  ownsRow_same h (fun k hk hlt => hq.blk k hlt (by omega))
theorem own_ne {w : World} {base k : Nat} {e t : TypeId} {size n : Nat} {v : Value} {xs cur : List Value} (h : w.ownsRow base e size v n xs) (hk : w.heap[k]? = some (.cells cur.toArray t (0, 0))) (hne : t ≠ e) : v.ownBlock ≠ some k := by
  intro he
  rcases h.2 with ⟨rfl, _⟩ | ⟨g, cap, cur', rfl, _, hg, _⟩
  · simp [Value.ownBlock] at he
  · obtain rfl : g = k := by simpa [Value.ownBlock] using he
    rw [hg] at hk
    simp at hk
    exact hne hk.2.symm

/-- A commit in a box. -/
def CB (X : World) (b q : Nat) (rows : List (Int × Int)) (ps : List Int) (l : M.By) (x y : Value) (w : World) : Prop :=
  w.heap[q]? = some (.cells #[x, y] 46 (0, 0)) ∧ Own w (q + 1) x rows ∧ OwnI w (q + 1) y ps ∧ EarAt w b l ∧ Bq b q X w ∧ b < q
theorem CB.next {X w w' : World} {b q : Nat} {rows : List (Int × Int)} {ps : List Int} {l l' : M.By} {x y : Value} (h : CB X b q rows ps l x y w) (hb : Bq b w.heap.size w w') (he : EarAt w' b l') : CB X b q rows ps l' x y w' := by
  obtain ⟨h1, h2, h3, h4, h5, h6⟩ := h
  have hq := (Array.getElem?_eq_some_iff.1 h1).1
  exact ⟨(hb.blk q hq (by omega)).trans h1, own_same h2 hb (by omega), own_same h3 hb (by omega), he, h5.trans (hb.mono (by omega)), h6⟩
theorem CB.lt {X w : World} {b q : Nat} {rows : List (Int × Int)} {ps : List Int} {l : M.By} {x y : Value} (h : CB X b q rows ps l x y w) : q < w.heap.size := (Array.getElem?_eq_some_iff.1 h.1).1
theorem CB.putR {X w w1 : World} {b q : Nat} {rows rows' : List (Int × Int)} {ps : List Int} {l : M.By} {x x' y : Value} (h : CB X b q rows ps l x y w) (hg : w.grownBy w1 x.ownBlock) (ho : Own w1 (q + 1) x' rows') :
    CB X b q rows' ps l x' y (w1.setCell ⟨q, 0, none⟩ x') ∧ w1.heap[q]? = some (.cells #[x, y] 46 (0, 0)) := by
  have hq := h.lt
  obtain ⟨h1, h2, h3, h4, h5, h6⟩ := h
  have k1 : w1.heap[q]? = some (.cells #[x, y] 46 (0, 0)) := (hg.block q hq (fun e => own_ne (cur := [x, y]) h2 h1 (by decide) e.symm)).trans h1
  have k2 : w1.heap[b]? = w.heap[b]? := hg.block b (by omega) (fun e => by have := (World.ownsRow.lt h2 b e.symm).1; omega)
  have g2 := grownBy_set w1 ⟨q, 0, none⟩ x'
  have no : ∀ e, e ≠ 46 → ∀ r, some q = some r → ∀ cur, w1.heap[r]? ≠ some (.cells cur e (0, 0)) := fun e he r hr cur hc => by
    cases hr
    rw [k1] at hc
    simp at hc
    exact he hc.2.symm
  refine ⟨⟨?_, ownsRow_elsewhere ho g2 (no _ (by decide)), ownsRow_elsewhere (ownsRow_elsewhere h3 hg (fun r hr cur hc => own_ne (cur := cur.toList) h2 (by simpa using hc) (by decide) hr)) g2 (no _ (by decide)), ?_, ?_, h6⟩, k1⟩
  · rw [heap_setCell_same _ _ _ _ _ _ k1]; rfl
  · exact h4.keep (by rw [heap_setCell_other _ _ _ _ (by show b ≠ q; omega)]; exact k2)
  · exact (h5.trans (Bq.grown hg (fun k e => by have := (World.ownsRow.lt h2 k e).1; omega) (by omega))).set (Nat.le_refl _) _
theorem CB.putP {X w w1 : World} {b q : Nat} {rows : List (Int × Int)} {ps ps' : List Int} {l : M.By} {x y y' : Value} (h : CB X b q rows ps l x y w) (hg : w.grownBy w1 y.ownBlock) (ho : OwnI w1 (q + 1) y' ps') :
    CB X b q rows ps' l x y' (w1.setCell ⟨q, 1, none⟩ y') ∧ w1.heap[q]? = some (.cells #[x, y] 46 (0, 0)) := by
  have hq := h.lt
  obtain ⟨h1, h2, h3, h4, h5, h6⟩ := h
  have k1 : w1.heap[q]? = some (.cells #[x, y] 46 (0, 0)) := (hg.block q hq (fun e => own_ne (cur := [x, y]) h3 h1 (by decide) e.symm)).trans h1
  have k2 : w1.heap[b]? = w.heap[b]? := hg.block b (by omega) (fun e => by have := (World.ownsRow.lt h3 b e.symm).1; omega)
  have g2 := grownBy_set w1 ⟨q, 1, none⟩ y'
  have no : ∀ e, e ≠ 46 → ∀ r, some q = some r → ∀ cur, w1.heap[r]? ≠ some (.cells cur e (0, 0)) := fun e he r hr cur hc => by
    cases hr
    rw [k1] at hc
    simp at hc
    exact he hc.2.symm
  refine ⟨⟨?_, ownsRow_elsewhere (ownsRow_elsewhere h2 hg (fun r hr cur hc => own_ne (cur := cur.toList) h3 (by simpa using hc) (by decide) hr)) g2 (no _ (by decide)), ownsRow_elsewhere ho g2 (no _ (by decide)), ?_, ?_, h6⟩, k1⟩
  · rw [heap_setCell_same _ _ _ _ _ _ k1]; rfl
  · exact h4.keep (by rw [heap_setCell_other _ _ _ _ (by show b ≠ q; omega)]; exact k2)
  · exact (h5.trans (Bq.grown hg (fun k e => by have := (World.ownsRow.lt h3 k e).1; omega) (by omega))).set (Nat.le_refl _) _

/-- A repo in a box. -/
def OB (W : World) (b D : Nat) (C : List M.Com) (H : List M.Hd) (l : M.By) (x y : Value) (w : World) : Prop :=
  w.heap[D]? = some (.cells #[x, y] 25 (0, 0)) ∧ OwnK w (D + 1) x C ∧ OwnH w (D + 1) y H ∧ EarAt w b l ∧ Bq b D W w ∧ b < D
theorem OB.lt {W w : World} {b D : Nat} {C : List M.Com} {H : List M.Hd} {l : M.By} {x y : Value} (h : OB W b D C H l x y w) : D < w.heap.size := (Array.getElem?_eq_some_iff.1 h.1).1
theorem OB.next {W w w' : World} {b D : Nat} {C : List M.Com} {H : List M.Hd} {l l' : M.By} {x y : Value} (h : OB W b D C H l x y w) (hb : Bq b w.heap.size w w') (he : EarAt w' b l') : OB W b D C H l' x y w' := by
  have hq := h.lt
  obtain ⟨h1, ⟨vals, k1, k2, k3⟩, ⟨h3, h3'⟩, h4, h5, h6⟩ := h
  exact ⟨(hb.blk D hq (by omega)).trans h1, ⟨vals, k1, own_same k2 hb (by omega), fun i hi => ⟨own_same (k3 i hi).1 hb (by omega), own_same (k3 i hi).2.1 hb (by omega), (k3 i hi).2.2⟩⟩, ⟨own_same h3 hb (by omega), h3'⟩, he, h5.trans (hb.mono (by omega)), h6⟩
theorem OB.putC {W w w1 : World} {b D : Nat} {C C' : List M.Com} {H : List M.Hd} {l : M.By} {x x' y : Value} (h : OB W b D C H l x y w) (hg : w.grownBy w1 x.ownBlock) (ho : OwnK w1 (D + 1) x' C') :
    OB W b D C' H l x' y (w1.setCell ⟨D, 0, none⟩ x') ∧ w1.heap[D]? = some (.cells #[x, y] 25 (0, 0)) := by
  have hq := h.lt
  obtain ⟨h1, ⟨vals, _, h2, _⟩, h3, h4, h5, h6⟩ := h
  have k1 : w1.heap[D]? = some (.cells #[x, y] 25 (0, 0)) := (hg.block D hq (fun e => own_ne (cur := [x, y]) h2 h1 (by decide) e.symm)).trans h1
  have k2 : w1.heap[b]? = w.heap[b]? := hg.block b (by omega) (fun e => by have := (World.ownsRow.lt h2 b e.symm).1; omega)
  have g2 := grownBy_set w1 ⟨D, 0, none⟩ x'
  have h3' : OwnH w1 (D + 1) y H := ⟨ownsRow_elsewhere h3.1 hg (fun r hr cur hc => own_ne (cur := cur.toList) h2 (by simpa using hc) (by decide) hr), h3.2⟩
  refine ⟨⟨?_, ho.elsewhere g2 k1 (by decide) (by decide) (by decide), h3'.elsewhere g2 k1 (by decide), ?_, ?_, h6⟩, k1⟩
  · rw [heap_setCell_same _ _ _ _ _ _ k1]; rfl
  · exact h4.keep (by rw [heap_setCell_other _ _ _ _ (by show b ≠ D; omega)]; exact k2)
  · exact (h5.trans (Bq.grown hg (fun k e => by have := (World.ownsRow.lt h2 k e).1; omega) (by omega))).set (Nat.le_refl _) _
theorem OB.putH {W w w1 : World} {b D : Nat} {C : List M.Com} {H H' : List M.Hd} {l : M.By} {x y y' : Value} (h : OB W b D C H l x y w) (hg : w.grownBy w1 y.ownBlock) (ho : OwnH w1 (D + 1) y' H') :
    OB W b D C H' l x y' (w1.setCell ⟨D, 1, none⟩ y') ∧ w1.heap[D]? = some (.cells #[x, y] 25 (0, 0)) := by
  have hq := h.lt
  obtain ⟨h1, ⟨vals, kl, h2, k3⟩, h3, h4, h5, h6⟩ := h
  have k1 : w1.heap[D]? = some (.cells #[x, y] 25 (0, 0)) := (hg.block D hq (fun e => own_ne (cur := [x, y]) h3.1 h1 (by decide) e.symm)).trans h1
  have k2 : w1.heap[b]? = w.heap[b]? := hg.block b (by omega) (fun e => by have := (World.ownsRow.lt h3.1 b e.symm).1; omega)
  have g2 := grownBy_set w1 ⟨D, 1, none⟩ y'
  have nn : ∀ e, 49 ≠ e → ∀ r, y.ownBlock = some r → ∀ cur, w.heap[r]? ≠ some (.cells cur e (0, 0)) := fun e he r hr cur hc => own_ne (cur := cur.toList) h3.1 (by simpa using hc) (fun q => he q.symm) hr
  have h2' : OwnK w1 (D + 1) x C := ⟨vals, kl, ownsRow_elsewhere h2 hg (nn _ (by decide)), fun i hi => ⟨ownsRow_elsewhere (k3 i hi).1 hg (nn _ (by decide)), ownsRow_elsewhere (k3 i hi).2.1 hg (nn _ (by decide)), (k3 i hi).2.2⟩⟩
  refine ⟨⟨?_, h2'.elsewhere g2 k1 (by decide) (by decide) (by decide), ho.elsewhere g2 k1 (by decide), ?_, ?_, h6⟩, k1⟩
  · rw [heap_setCell_same _ _ _ _ _ _ k1]; rfl
  · exact h4.keep (by rw [heap_setCell_other _ _ _ _ (by show b ≠ D; omega)]; exact k2)
  · exact (h5.trans (Bq.grown hg (fun k e => by have := (World.ownsRow.lt h3.1 k e).1; omega) (by omega))).set (Nat.le_refl _) _
theorem wpl_rows {w : World} {ops : Array Oper} {rest : List Oper} {o : Oper} {a : Act} {Q : Exit → Act → World → Prop} (hgd : o.guard = none) (s x : Operand)
    (ho : o.op = .call { callee := .builtin .append, args := #[s, x], argTypes := #[43, 43] })
    (base : Nat) (v : Value) (l : List (Int × Int)) (hs : a.eval s = v) (hown : Own w base v l)
    (ao : Option Addr) (m c : Nat) (l2 : List (Int × Int)) (hx : a.eval x = .slice ao m c) (hr : Rd w ao m l2) (hnil : ao = none → m = 0 ∧ c = 0)
    (hbig : l.length + m ≤ 1000000) (hbase : base ≤ w.heap.size)
    (h : ∀ v' w', Own w' base v' (l ++ l2) → w.grownBy w' v.ownBlock → wpList Try.prog ops Q rest (a.put o.dst v') w') : wpList Try.prog ops Q (o :: rest) a w := by
  refine wpList_plain hgd fun K hK => ?_
  have := step_rows (ops := ops) (K := K) (Q := Q) (E := True) hgd s x ho base v l hs hown ao m c l2 hx hr hnil hbig hbase (fun v' w' h1 h2 => hK _ _ (h v' w' h1 h2))
  rwa [if_pos (by simp [Region.wanted, hgd])] at this
theorem Own.slice {w : World} {base : Nat} {v : Value} {l : List (Int × Int)} (h : Own w base v l) : ∃ a c, v = .slice a l.length c := by
  obtain ⟨a, c, e, _⟩ := h.rd
  exact ⟨a, c, e⟩
end Go.Proofs.Ytcgpgflnihjpiag

namespace Go.Proofs.Ytcgpgflnihjpiag
open Go.RowKit

set_option maxRecDepth 100000 in
set_option maxHeartbeats 16000000 in
theorem rfrom_any (l : M.By) (w : World) (hl : l.length ≤ 9223372036854775807) :
    Calls Try.prog 11 #[.string (M.str l)] w fun e w' => Below w.heap.size w w' ∧
      ((M.readR l = none ∧ e = .returned (.tuple #[.agg #[.slice none 0 0, .slice none 0 0], .bool false])) ∨
       (∃ C H v, M.readR l = some (C, H) ∧ e = .returned (.tuple #[v, .bool true]) ∧ RepoOwn w' w.heap.size v C H)) := by
  obtain ⟨i1, hi1, hy0, hy1, hy2⟩ := info_parts infoCommit
  obtain ⟨p, hp⟩ : ∃ p, p = w.heap.size := ⟨_, rfl⟩
  obtain ⟨b, hbp⟩ : ∃ b, b = p + 1 := ⟨_, rfl⟩
  obtain ⟨D, hDp⟩ : ∃ D, D = p + 1 + 1 := ⟨_, rfl⟩
  obtain ⟨s, hs⟩ : ∃ s, s = M.str l := ⟨_, rfl⟩
  obtain ⟨W, hW⟩ : ∃ W, W = ((w.alloc (.cells #[.slice none 0 0, .slice none 0 0] 25)).alloc (.cells #[.string s] 67)).alloc (.cells #[.slice none 0 0, .slice none 0 0] 25) := ⟨_, rfl⟩
  have hb : Below w.heap.size w W := by rw [hW]; exact (((Below.refl _ _).alloc (Nat.le_refl _) _).alloc (by simp) _).alloc (by simp; omega) _
  have q0 : W.heap[p]? = some (.cells #[.slice none 0 0, .slice none 0 0] 25 (0, 0)) := by
    rw [hW, hp, Below.heap_alloc _ _ _ (by simp; omega), Below.heap_alloc _ _ _ (by simp)]; exact heap_alloc_new _ _
  have q1 : W.heap[b]? = some (.cells #[.string s] 67 (0, 0)) := by
    rw [hW, hbp, hp, Below.heap_alloc _ _ _ (by simp), show w.heap.size + 1 = (w.alloc (.cells #[.slice none 0 0, .slice none 0 0] 25)).heap.size by simp]; exact heap_alloc_new _ _
  have q2 : W.heap[D]? = some (.cells #[.slice none 0 0, .slice none 0 0] 25 (0, 0)) := by
    rw [hW, hDp, hp, show w.heap.size + 1 + 1 = ((w.alloc (.cells #[.slice none 0 0, .slice none 0 0] 25)).alloc (.cells #[.string s] 67)).heap.size by simp]; exact heap_alloc_new _ _
  have hbD : b < D := by omega
  have e0 : EarAt W b l := ⟨by rw [← hs]; exact q1, hl⟩
  have o0 : OB W b D [] [] l (.slice none 0 0) (.slice none 0 0) W := ⟨q2, OwnK.nil _ _, OwnH.nil _ _, e0, Bq.refl _ _ _, hbD⟩
  -- what is read
  obtain ⟨n1, En1'⟩ : ∃ n1 : Nat, (M.eB l).1 = (n1 : Int) := ⟨(M.eB l).1.toNat, by have := M.eB_range l; omega⟩
  have hn1 : n1 < 256 := by have := M.eB_range l; omega
  obtain ⟨l1, Hl1e'⟩ : ∃ l1, l1 = (M.eB l).2 := ⟨_, rfl⟩
  have K1 := ebyte_any b l W e0
  rw [En1', ← Hl1e'] at K1
  have HK1 : Hid (Calls Try.prog 27 #[.pointer (some ⟨b, 0, none⟩)] W fun e w' => e = .returned (.int .i64 (n1 : Int)) ∧ EarAt w' b l1 ∧ But b W w') := K1
  have HRe1 : Hid (M.eL M.eCo l = M.eN M.eCo n1 l1) := by unfold Hid M.eL; rw [En1', Hl1e']; rfl
  have HO0 : Hid (OB W b D [] [] l (.slice none 0 0) (.slice none 0 0) W) := o0
  have HQ0 : Hid (W.heap[p]? = some (.cells #[.slice none 0 0, .slice none 0 0] 25 (0, 0))) := q0
  have HW : Hid (W = ((w.alloc (.cells #[.slice none 0 0, .slice none 0 0] 25)).alloc (.cells #[.string s] 67)).alloc (.cells #[.slice none 0 0, .slice none 0 0] 25)) := hW
  have HP : Aside (p = w.heap.size) := hp
  have HBe : Aside (b = p + 1) := hbp
  have HDe : Aside (D = p + 1 + 1) := hDp
  have HS : Hid (s = M.str l) := hs
  have HB : Hid (Below w.heap.size w W) := hb
  have HBD : Aside (b < D) := hbD
  rw [← hs]
  clear hW hp hbp hDp hs q0 q1 q2 e0 o0 K1 En1' Hl1e' hb hbD
  go_enter Try.func11, Try.ntmps11
  go_wp2_with fail
  rw [← HW.out, ← HP.out, ← HDe.out, ← HBe.out]
  refine HK1.out.mono ?_
  rintro e w1 ⟨rfl, e1, b1⟩
  have HO1 : Aside (OB W b D (M.eN M.eCo 0 l1).1 [] (M.eN M.eCo 0 l1).2 (.slice none 0 0) (.slice none 0 0) w1) := HO0.out.next (Bq.but b1) e1
  clear e1 b1 HK1
  go_wp2_with fail
  go_loopg [6] n1 (fun g i wr => ∃ (k r : Nat) (x y : Value), k + g = n1 ∧ r + k = n1 ∧ i = .int .i64 (r : Int) ∧ Aside (OB W b D (M.eN M.eCo k l1).1 [] (M.eN M.eCo k l1).2 x y wr))
  case atStart => exact ⟨0, n1, _, _, by omega, by omega, rfl, HO1⟩
  case round =>
    obtain ⟨k, r, xo, yo, hkg, hrk, rfl, HOk⟩ := hrel
    obtain ⟨oa, oc, hxo, _⟩ := OwnK.cm HOk.out.2.1
    obtain ⟨on, hon⟩ : ∃ on, on = (M.eN M.eCo k l1).1.length := ⟨_, rfl⟩
    rw [← hon] at hxo
    subst hxo
    clear hon
    obtain ⟨ro, hro⟩ : ∃ ro, ro = r := ⟨_, rfl⟩
    subst hro
    by_cases hr0 : 0 < ro
    · have hr1 : decide ((0 : Int) < (ro : Int)) = true := by simp; omega
      have hr2 : decide (0 < ro) = true := by simp; omega
      obtain ⟨wo, hwo⟩ : ∃ wo, wo = wr := ⟨_, rfl⟩
      subst hwo
      obtain ⟨lk, hlk⟩ : ∃ lk, lk = (M.eN M.eCo k l1).2 := ⟨_, rfl⟩
      obtain ⟨Ck, hCk⟩ : ∃ Ck, Ck = (M.eN M.eCo k l1).1 := ⟨_, rfl⟩
      rw [← hlk, ← hCk] at HOk
      have hCkl : Ck.length = k := by rw [hCk]; exact M.eN_len _ _ _
      have hsn := M.eN_snoc M.eCo k l1
      rw [← hlk, ← hCk] at hsn
      obtain ⟨m1, Em1⟩ : ∃ m1 : Nat, (M.eB lk).1 = (m1 : Int) := ⟨(M.eB lk).1.toNat, by have := M.eB_range lk; omega⟩
      have hm1 : m1 < 256 := by have := M.eB_range lk; omega
      obtain ⟨lr, Hlre⟩ : ∃ lr, lr = (M.eB lk).2 := ⟨_, rfl⟩
      have hLr : M.eL M.eR lk = M.eN M.eR m1 lr := by unfold M.eL; rw [Em1, Hlre]; rfl
      obtain ⟨lp, hlp⟩ : ∃ lp, lp = (M.eN M.eR m1 lr).2 := ⟨_, rfl⟩
      obtain ⟨rows, hrows⟩ : ∃ rows, rows = (M.eN M.eR m1 lr).1 := ⟨_, rfl⟩
      obtain ⟨m2, Em2⟩ : ∃ m2 : Nat, (M.eB lp).1 = (m2 : Int) := ⟨(M.eB lp).1.toNat, by have := M.eB_range lp; omega⟩
      have hm2 : m2 < 256 := by have := M.eB_range lp; omega
      obtain ⟨lq, Hlqe⟩ : ∃ lq, lq = (M.eB lp).2 := ⟨_, rfl⟩
      have hLq : M.eL M.eB lp = M.eN M.eB m2 lq := by unfold M.eL; rw [Em2, Hlqe]; rfl
      obtain ⟨ps, hps⟩ : ∃ ps, ps = (M.eN M.eB m2 lq).1 := ⟨_, rfl⟩
      obtain ⟨le, hle⟩ : ∃ le, le = (M.eN M.eB m2 lq).2 := ⟨_, rfl⟩
      have heCo : M.eCo lk = ((rows, ps), le) := by unfold M.eCo; rw [hLr, ← hlp, ← hrows, hLq, ← hps, ← hle]
      rw [heCo] at hsn
      have hrl : rows.length = m1 := by rw [hrows]; exact M.eN_len _ _ _
      have hpl : ps.length = m2 := by rw [hps]; exact M.eN_len _ _ _
      have HSn : Hid (M.eN M.eCo (k + 1) l1 = (Ck ++ [(rows, ps)], le)) := hsn
      have HK2 : Hid (∀ V, EarAt V b lk → Calls Try.prog 27 #[.pointer (some ⟨b, 0, none⟩)] V fun e w' => e = .returned (.int .i64 (m1 : Int)) ∧ EarAt w' b lr ∧ But b V w') := fun V hV => by
        have := ebyte_any b lk V hV
        rw [Em1, ← Hlre] at this
        exact this
      have HK3 : Hid (∀ V, EarAt V b lp → Calls Try.prog 27 #[.pointer (some ⟨b, 0, none⟩)] V fun e w' => e = .returned (.int .i64 (m2 : Int)) ∧ EarAt w' b lq ∧ But b V w') := fun V hV => by
        have := ebyte_any b lp V hV
        rw [Em2, ← Hlqe] at this
        exact this
      have HRw : Hid (rows = (M.eN M.eR m1 lr).1 ∧ lp = (M.eN M.eR m1 lr).2) := ⟨hrows, hlp⟩
      have HPs : Hid (ps = (M.eN M.eB m2 lq).1 ∧ le = (M.eN M.eB m2 lq).2) := ⟨hps, hle⟩
      obtain ⟨q, hq⟩ : ∃ q, q = wo.heap.size := ⟨_, rfl⟩
      obtain ⟨X1, hX1⟩ : ∃ X, X = wo.alloc (.cells #[.slice none 0 0, .slice none 0 0] 46) := ⟨_, rfl⟩
      have bX1 : Below wo.heap.size wo X1 := by rw [hX1]; exact (Below.refl _ _).alloc (Nat.le_refl _) _
      have h10 : X1.heap[q]? = some (.cells #[.slice none 0 0, .slice none 0 0] 46 (0, 0)) := by rw [hX1, hq]; exact heap_alloc_new _ _
      have hbq : b < q := by rw [hq]; exact HOk.out.2.2.2.1.lt
      have e1 : EarAt X1 b lk := HOk.out.2.2.2.1.keep (bX1.block b HOk.out.2.2.2.1.lt)
      have c1 : CB wo b q [] [] lk (.slice none 0 0) (.slice none 0 0) X1 := ⟨h10, World.ownsRow_nil _ _ _ _, OwnI.nil _ _, e1, by rw [hq]; exact Bq.below bX1, hbq⟩
      have HC1 : Hid (CB wo b q [] [] lk (.slice none 0 0) (.slice none 0 0) X1) := c1
      have HX1 : Hid (X1 = wo.alloc (.cells #[.slice none 0 0, .slice none 0 0] 46)) := hX1
      have HQ : Aside (q = wo.heap.size) := hq
      have HDq : Aside (D < q) := by unfold Aside; rw [hq]; exact HOk.out.lt
      have HE1 : Hid (EarAt X1 b lk) := e1
      have HCkl : Aside (Ck.length = k) := hCkl
      have HRl : Aside (rows.length = m1) := hrl
      have HPl : Aside (ps.length = m2) := hpl
      clear hlk hCk hsn Em1 Hlre hLr hlp hrows Em2 Hlqe hLq hps hle heCo hX1 hq bX1 h10 hbq e1 c1 hCkl hrl hpl
      go_wp2_with fail
      rw [← HX1.out, ← HQ.out]
      refine (HK2.out X1 HE1.out).mono ?_
      rintro e w2 ⟨rfl, e2, b2⟩
      have HC2 : Aside (CB wo b q (M.eN M.eR 0 lr).1 [] (M.eN M.eR 0 lr).2 (.slice none 0 0) (.slice none 0 0) w2) := HC1.out.next (Bq.but b2) e2
      clear e2 b2 HK2 HC1 HE1
      go_wp2_with fail
      go_loopg [8] m1 (fun g i wy => ∃ (j r : Nat) (x : Value), j + g = m1 ∧ r + j = m1 ∧ i = .int .i64 (r : Int) ∧ Aside (CB wo b q (M.eN M.eR j lr).1 [] (M.eN M.eR j lr).2 x (.slice none 0 0) wy))
      case atStart => exact ⟨0, m1, _, by omega, by omega, rfl, HC2⟩
      case round =>
        obtain ⟨j, r, x, hjg, hrj, rfl, HCj⟩ := hrel
        obtain ⟨xa, xc, hx⟩ := HCj.out.2.1.slice
        obtain ⟨xn, hxn⟩ : ∃ xn, xn = (M.eN M.eR j lr).1.length := ⟨_, rfl⟩
        rw [← hxn] at hx
        subst hx
        clear hxn
        by_cases hrr : 0 < r
        · have hr3 : decide ((0 : Int) < (r : Int)) = true := by simp; omega
          have hr4 : decide (0 < r) = true := by simp; omega
          obtain ⟨la, hla⟩ : ∃ la, la = (M.eN M.eR j lr).2 := ⟨_, rfl⟩
          obtain ⟨rj, hrje⟩ : ∃ rj, rj = (M.eN M.eR j lr).1 := ⟨_, rfl⟩
          have hrjl : rj.length = j := by rw [hrje]; exact M.eN_len _ _ _
          have hsn := M.eN_snoc M.eR j lr
          rw [← hla, ← hrje] at hsn HCj
          obtain ⟨kx, Ekx⟩ : ∃ kx : Nat, (M.eB la).1 = (kx : Int) := ⟨(M.eB la).1.toNat, by have := M.eB_range la; omega⟩
          obtain ⟨lb, Hlbe⟩ : ∃ lb, lb = (M.eB la).2 := ⟨_, rfl⟩
          obtain ⟨vx, hvx⟩ : ∃ vx, vx = (M.e2 lb).1 := ⟨_, rfl⟩
          obtain ⟨lz, hlz⟩ : ∃ lz, lz = (M.e2 lb).2 := ⟨_, rfl⟩
          have heR : M.eR la = (((kx : Int), vx), lz) := by unfold M.eR; rw [Ekx, ← Hlbe, ← hvx, ← hlz]
          rw [heR] at hsn
          have HSn1 : Hid (rj ++ [((kx : Int), vx)] = (M.eN M.eR (j + 1) lr).1) := by unfold Hid; rw [hsn]
          have HSn2 : Hid (lz = (M.eN M.eR (j + 1) lr).2) := by unfold Hid; rw [hsn]
          have HKa : Hid (∀ V, EarAt V b la → Calls Try.prog 27 #[.pointer (some ⟨b, 0, none⟩)] V fun e w' => e = .returned (.int .i64 (kx : Int)) ∧ EarAt w' b lb ∧ But b V w') := fun V hV => by
            have := ebyte_any b la V hV
            rw [Ekx, ← Hlbe] at this
            exact this
          have HKt : Hid (∀ V, EarAt V b lb → Calls Try.prog 28 #[.pointer (some ⟨b, 0, none⟩)] V fun e w' => e = .returned (.int .i64 vx) ∧ EarAt w' b lz ∧ But b V w') := fun V hV => by
            have := etwo_any b lb V hV
            rw [← hvx, ← hlz] at this
            exact this
          have HEj : Hid (EarAt wr b la) := HCj.out.2.2.2.1
          have HRj : Aside (rj.length = j) := hrjl
          clear hla hrje hrjl hsn Ekx Hlbe hvx hlz heR
          go_wp2_with fail
          refine (HKa.out wr HEj.out).mono ?_
          rintro e w3 ⟨rfl, e3, b3⟩
          have c3 := HCj.out.next (Bq.but b3) e3
          obtain ⟨xb, hxb⟩ : ∃ xb, xb = w3.heap.size := ⟨_, rfl⟩
          obtain ⟨X5, hX5⟩ : ∃ X, X = w3.alloc (.cells #[.int .i64 (kx : Int), .int .i64 0] 56) := ⟨_, rfl⟩
          have b5 : Below w3.heap.size w3 X5 := by rw [hX5]; exact (Below.refl _ _).alloc (Nat.le_refl _) _
          have h50 : X5.heap[xb]? = some (.cells #[.int .i64 (kx : Int), .int .i64 0] 56 (0, 0)) := by rw [hX5, hxb]; exact heap_alloc_new _ _
          have hb3 : b < w3.heap.size := e3.lt
          have hbx : b ≠ xb := by omega
          have e5 : EarAt X5 b lb := e3.keep (b5.block b hb3)
          have HE5 : Hid (EarAt X5 b lb) := e5
          have H50 : Hid (X5.heap[xb]? = some (.cells #[.int .i64 (kx : Int), .int .i64 0] 56 (0, 0))) := h50
          have HX5 : Hid (X5 = w3.alloc (.cells #[.int .i64 (kx : Int), .int .i64 0] 56)) := hX5
          have HXb : Aside (xb = w3.heap.size) := hxb
          have HC3 : Hid (CB wo b q rj [] lb (.slice xa xn xc) (.slice none 0 0) w3) := c3
          have HB5 : Hid (Below w3.heap.size w3 X5) := b5
          clear hX5 hxb b5 h50 e5 e3 b3 c3 HKa hb3
          go_wp2_with fail
          rw [← HX5.out, ← HXb.out]
          refine (HKt.out X5 HE5.out).mono ?_
          rintro e w4 ⟨rfl, e4, b4⟩
          have h40 : w4.heap[xb]? = some (.cells #[.int .i64 (kx : Int), .int .i64 0] 56 (0, 0)) := (b4.block xb (Array.getElem?_eq_some_iff.1 H50.out).1 (fun e => hbx (Option.some.inj e).symm)).trans H50.out
          have y1 : w4.cell? ⟨xb, 1, none⟩ = some (.int .i64 0) := by rw [cell_of_row _ _ _ _ _ _ h40]; rfl
          have f1 : w4.frozen? ⟨xb, 1, none⟩ = false := frozen_of_row _ _ _ _ _ h40
          obtain ⟨X6, hX6⟩ : ∃ X, X = w4.setCell ⟨xb, 1, none⟩ (.int .i64 vx) := ⟨_, rfl⟩
          have h60 : X6.heap[xb]? = some (.cells #[.int .i64 (kx : Int), .int .i64 vx] 56 (0, 0)) := by rw [hX6, heap_setCell_same _ _ _ _ _ _ h40]; rfl
          have e6 : EarAt X6 b lz := e4.keep (by rw [hX6, heap_setCell_other _ _ _ _ (by show b ≠ xb; exact hbx)])
          have bq6 : Bq b w3.heap.size w3 X6 := by
            rw [hX6]
            exact ((Bq.below HB5.out).trans ((Bq.but b4).mono HB5.out.size)).set (by rw [HXb.out]; exact Nat.le_refl _) _
          have c6 := HC3.out.next bq6 e6
          obtain ⟨X7, hX7⟩ : ∃ X, X = X6.alloc (.cells #[.int .i64 (kx : Int), .int .i64 vx] 56) := ⟨_, rfl⟩
          have b7 : Below X6.heap.size X6 X7 := by rw [hX7]; exact (Below.refl _ _).alloc (Nat.le_refl _) _
          have c7 := c6.next (Bq.below b7) (e6.keep (b7.block b e6.lt))
          have HC7 : Hid (CB wo b q rj [] lz (.slice xa xn xc) (.slice none 0 0) X7) := c7
          have HRd7 : Hid (Rd X7 (some ⟨X6.heap.size, 0, none⟩) 1 [((kx : Int), vx)]) := by rw [hX7]; exact rd_one X6 _ _
          have z0 : X6.cell? ⟨q, 0, none⟩ = some (.slice xa xn xc) := by rw [cell_of_row _ _ _ _ _ _ c6.1]; rfl
          have z1 : X6.cell? ⟨xb, 0, none⟩ = some (.int .i64 (kx : Int)) := by rw [cell_of_row _ _ _ _ _ _ h60]; rfl
          have z2 : X6.cell? ⟨xb, 1, none⟩ = some (.int .i64 vx) := by rw [cell_of_row _ _ _ _ _ _ h60]; rfl
          have HX6 : Hid (X6 = w4.setCell ⟨xb, 1, none⟩ (.int .i64 vx)) := hX6
          have HX7 : Hid (X7 = X6.alloc (.cells #[.int .i64 (kx : Int), .int .i64 vx] 56)) := hX7
          have HS6 : Hid (X6.heap.size = w4.heap.size) := by unfold Hid; rw [hX6]; simp [World.setCell]
          rw [hX6] at z0 z1 z2
          clear h40 h60 e4 b4 e6 bq6 c6 c7 b7 hX6 hX7 HKt
          go_wp2_with (at_builtin; rw [← HX6.out]; (try rw [← HX7.out]); refine wpl_rows rfl _ _ rfl (q + 1) _ rj rfl HC7.out.2.1 (some ⟨X6.heap.size, 0, none⟩) 1 1 [((kx : Int), vx)] (by rw [HS6.out]; rfl) HRd7.out (fun h => by simp at h) (by rw [HRj.out]; omega) (by have := HC7.out.lt; omega) ?_)
          intro v8 w8 o8 g8
          obtain ⟨qa, qc, ev⟩ := Own.slice o8
          obtain ⟨qn, hqn⟩ : ∃ qn, qn = (rj ++ [((kx : Int), vx)]).length := ⟨_, rfl⟩
          rw [← hqn] at ev
          subst ev
          rw [HSn1.out] at o8
          obtain ⟨P1, P2⟩ := HC7.out.putR g8 o8
          rw [HSn2.out] at P1
          have HP1 : Aside (CB wo b q (M.eN M.eR (j + 1) lr).1 [] (M.eN M.eR (j + 1) lr).2 (.slice qa qn qc) (.slice none 0 0) (w8.setCell ⟨q, 0, none⟩ (.slice qa qn qc))) := P1
          have k8 : w8.cell? ⟨q, 0, none⟩ = some (.slice xa xn xc) := by rw [cell_of_row _ _ _ _ _ _ P2]; rfl
          have f8 : w8.frozen? ⟨q, 0, none⟩ = false := frozen_of_row _ _ _ _ _ P2
          clear P1 P2 o8 g8 hqn z0 z1 z2 y1 f1
          go_wp2
          go_roundg (m1 - j - 1)
          case measure => omega
          case rel => exact ⟨j + 1, r - 1, _, by omega, by omega, by go_num, HP1⟩
        · obtain rfl : r = 0 := by omega
          obtain rfl : j = m1 := by omega
          rw [← HRw.out.1, ← HRw.out.2] at HCj
          have HEj : Hid (EarAt wr b lp) := HCj.out.2.2.2.1
          go_wp2_with fail
          refine (HK3.out wr HEj.out).mono ?_
          rintro e w5 ⟨rfl, e5, b5⟩
          have HC5 : Aside (CB wo b q rows (M.eN M.eB 0 lq).1 (M.eN M.eB 0 lq).2 (.slice xa xn xc) (.slice none 0 0) w5) := HCj.out.next (Bq.but b5) e5
          obtain ⟨x, hx⟩ : ∃ x, x = Value.slice xa xn xc := ⟨_, rfl⟩
          have HXs : Aside (x = Value.slice xa xn xc) := hx
          rw [← hx] at HC5
          clear e5 b5 HK3 hx
          go_wp2_with fail
          go_loopg [10] m2 (fun g i wy => ∃ (j r : Nat) (y : Value), j + g = m2 ∧ r + j = m2 ∧ i = .int .i64 (r : Int) ∧ Aside (CB wo b q rows (M.eN M.eB j lq).1 (M.eN M.eB j lq).2 x y wy))
          case atStart => exact ⟨0, m2, _, by omega, by omega, rfl, HC5⟩
          case round =>
            obtain ⟨j, r, y, hjg2, hrj2, rfl, HCj⟩ := hrel
            obtain ⟨ya, yc, hy, _⟩ := OwnI.ri HCj.out.2.2.1
            obtain ⟨yn, hyn⟩ : ∃ yn, yn = (M.eN M.eB j lq).1.length := ⟨_, rfl⟩
            rw [← hyn] at hy
            subst hy
            clear hyn
            by_cases hrr2 : 0 < r
            · have hr5 : decide ((0 : Int) < (r : Int)) = true := by simp; omega
              have hr6 : decide (0 < r) = true := by simp; omega
              obtain ⟨la, hla⟩ : ∃ la, la = (M.eN M.eB j lq).2 := ⟨_, rfl⟩
              have hsn := M.eN_snoc M.eB j lq
              obtain ⟨pv, Epv⟩ : ∃ pv : Nat, (M.eB la).1 = (pv : Int) := ⟨(M.eB la).1.toNat, by have := M.eB_range la; omega⟩
              obtain ⟨lz, hlz⟩ : ∃ lz, lz = (M.eB la).2 := ⟨_, rfl⟩
              rw [← hla, Epv, ← hlz] at hsn
              rw [← hla] at HCj
              have HSn1 : Hid ((M.eN M.eB j lq).1 ++ [(pv : Int)] = (M.eN M.eB (j + 1) lq).1) := by unfold Hid; rw [hsn]
              have HSn2 : Hid (lz = (M.eN M.eB (j + 1) lq).2) := by unfold Hid; rw [hsn]
              have HKb : Hid (∀ V, EarAt V b la → Calls Try.prog 27 #[.pointer (some ⟨b, 0, none⟩)] V fun e w' => e = .returned (.int .i64 (pv : Int)) ∧ EarAt w' b lz ∧ But b V w') := fun V hV => by
                have := ebyte_any b la V hV
                rw [Epv, ← hlz] at this
                exact this
              have hqy : wr.cell? ⟨q, 1, none⟩ = some (.slice ya yn yc) := by rw [cell_of_row _ _ _ _ _ _ HCj.out.1]; rfl
              have hql := HCj.out.lt
              have HSV : Hid (∀ V, Below wr.heap.size wr V → V.cell? ⟨q, 1, none⟩ = some (.slice ya yn yc)) := fun V hV => (hV.cell (p := ⟨q, 1, none⟩) hql).trans hqy
              have HBd : Hid (Below wr.heap.size wr wr.drew) := (Below.refl _ _).drew
              have HEd : Hid (EarAt wr.drew b la) := HCj.out.2.2.2.1.keep rfl
              have HCd : Hid (CB wo b q rows (M.eN M.eB j lq).1 la x (.slice ya yn yc) wr.drew) := HCj.out.next (Bq.below HBd.out) HEd.out
              clear hla hsn Epv hlz
              go_wp2_with fail
              refine wp_region_till 7 (fun V => V.cell? ⟨q, 1, none⟩ = some (.slice ya yn yc)) (by kernel_rfl) (HSV.out _ HBd.out) (fun hHeld => ?_)
              refine till_go 0 (v := .pointer (some ⟨q, 1, none⟩)) rfl (by decide) (by kernel_rfl) (by kernel_rfl) (by kernel_rfl) (fun _ _ _ h => h) (Or.inl ⟨by rfl, fun V _ => (by go_simp)⟩) hHeld ?_
              try simp only [Act.put]
              refine till_take 1 (v := .slice ya yn yc) rfl (by decide) (by kernel_rfl) (by kernel_rfl) (by kernel_rfl) (by kernel_rfl) (by kernel_rfl) (fun _ _ _ h => h) (Or.inl ⟨by rfl, fun V hV => (by have v0 := hV; go_simp)⟩) hHeld ?_
              try simp only [Act.put]
              refine till_go 2 (v := .pointer (some ⟨b, 0, none⟩)) rfl (by decide) (by kernel_rfl) (by kernel_rfl) (by kernel_rfl) (fun _ _ _ h => h) (Or.inl ⟨by rfl, fun V _ => (by go_simp)⟩) hHeld ?_
              try simp only [Act.put]
              refine till_step 3 rfl (by decide) (by kernel_rfl) (fun K hK => ?_)
              go_simp
              refine (HKb.out _ HEd.out).mono ?_
              rintro e w3 ⟨rfl, e3, b3⟩
              have c3 : CB wo b q rows (M.eN M.eB j lq).1 lz x (.slice ya yn yc) w3 := HCd.out.next (Bq.but b3) e3
              have HC3 : Hid (CB wo b q rows (M.eN M.eB j lq).1 lz x (.slice ya yn yc) w3) := c3
              have k3 : w3.cell? ⟨q, 1, none⟩ = some (.slice ya yn yc) := by rw [cell_of_row _ _ _ _ _ _ c3.1]; rfl
              refine hK.out _ _ k3 (fun hHeld => ?_)
              clear hK K c3 e3 b3
              refine till_step 4 rfl (by decide) (by kernel_rfl) (fun K hK => ?_)
              go_simp
              have ba : Below w3.heap.size w3 (w3.alloc (.cells #[.int .i64 (pv : Int)] 3)) := (Below.refl _ _).alloc (Nat.le_refl _) _
              have c4 : CB wo b q rows (M.eN M.eB j lq).1 lz x (.slice ya yn yc) (w3.alloc (.cells #[.int .i64 (pv : Int)] 3)) := HC3.out.next (Bq.below ba) (HC3.out.2.2.2.1.keep (ba.block b (Nat.lt_trans HC3.out.2.2.2.2.2 HC3.out.lt)))
              have HC4 : Hid (CB wo b q rows (M.eN M.eB j lq).1 lz x (.slice ya yn yc) (w3.alloc (.cells #[.int .i64 (pv : Int)] 3))) := c4
              have k4 : (w3.alloc (.cells #[.int .i64 (pv : Int)] 3)).cell? ⟨q, 1, none⟩ = some (.slice ya yn yc) := by rw [cell_of_row _ _ _ _ _ _ c4.1]; rfl
              have HRi : Hid (Ri (w3.alloc (.cells #[.int .i64 (pv : Int)] 3)) (some ⟨w3.heap.size, 0, none⟩) 1 [(pv : Int)]) := ⟨rfl, Or.inr ⟨w3.heap.size, 0, rfl, by simp, ri_one w3 _⟩⟩
              refine hK.out _ _ k4 (fun hHeld => ?_)
              clear hK K c4 ba
              refine till_step 5 rfl (by decide) (by kernel_rfl) (fun K hK => ?_)
              refine step_ints rfl _ _ rfl (q + 1) _ (M.eN M.eB j lq).1 rfl HC4.out.2.2.1 (some ⟨w3.heap.size, 0, none⟩) 1 1 [(pv : Int)] rfl HRi.out (fun h => by simp at h) (by rw [M.eN_len]; omega) (by have := HC4.out.lt; omega) ?_
              intro v8 w8 o8 g8
              obtain ⟨qa, qc, ev, _⟩ := OwnI.ri o8
              obtain ⟨qn, hqn⟩ : ∃ qn, qn = ((M.eN M.eB j lq).1 ++ [(pv : Int)]).length := ⟨_, rfl⟩
              rw [← hqn] at ev
              subst ev
              rw [HSn1.out] at o8
              obtain ⟨P1, P2⟩ := HC4.out.putP g8 o8
              rw [HSn2.out] at P1
              have HP1 : Aside (CB wo b q rows (M.eN M.eB (j + 1) lq).1 (M.eN M.eB (j + 1) lq).2 x (.slice qa qn qc) (w8.setCell ⟨q, 1, none⟩ (.slice qa qn qc))) := P1
              have k8 : w8.cell? ⟨q, 1, none⟩ = some (.slice ya yn yc) := by rw [cell_of_row _ _ _ _ _ _ P2]; rfl
              have f8 : w8.frozen? ⟨q, 1, none⟩ = false := frozen_of_row _ _ _ _ _ P2
              refine hK.out _ _ k8 (fun hHeld => ?_)
              clear hK K P1 P2 o8 g8 hqn
              refine till_go 6 (v := .pointer (some ⟨q, 1, none⟩)) rfl (by decide) (by kernel_rfl) (by kernel_rfl) (by kernel_rfl) (fun _ _ _ h => h) (Or.inl ⟨by rfl, fun V _ => (by go_simp)⟩) hHeld ?_
              try simp only [Act.put]
              refine till_last rfl (by kernel_rfl) (by kernel_rfl) (fun K hK => ?_) _
              go_simp
              refine hK.out _ _ ?_
              clear hK K
              go_wp2
              go_roundg (m2 - j - 1)
              case measure => omega
              case rel => exact ⟨j + 1, r - 1, _, by omega, by omega, by go_num, HP1⟩
            · obtain rfl : r = 0 := by omega
              obtain rfl : j = m2 := by omega
              rw [← HPs.out.1, ← HPs.out.2] at HCj
              have hx := HXs.out
              subst hx
              have oR : OB W b D Ck [] le (.slice oa on oc) yo wr := HOk.out.next (by rw [← HQ.out]; exact HCj.out.2.2.2.2.1) HCj.out.2.2.2.1
              obtain ⟨X7, hX7⟩ : ∃ X, X = wr.alloc (.cells #[.slice xa xn xc, .slice ya yn yc] 46) := ⟨_, rfl⟩
              have b7 : Below wr.heap.size wr X7 := by rw [hX7]; exact (Below.refl _ _).alloc (Nat.le_refl _) _
              have e7 : EarAt X7 b le := HCj.out.2.2.2.1.keep (b7.block b HCj.out.2.2.2.1.lt)
              have o7 := oR.next (Bq.below b7) e7
              have c7 := HCj.out.next (Bq.below b7) e7
              have HO7 : Hid (OB W b D Ck [] le (.slice oa on oc) yo X7) := o7
              have z0 : wr.cell? ⟨D, 0, none⟩ = some (.slice oa on oc) := by rw [cell_of_row _ _ _ _ _ _ oR.1]; rfl
              have z1 : wr.cell? ⟨q, 0, none⟩ = some (.slice xa xn xc) := by rw [cell_of_row _ _ _ _ _ _ HCj.out.1]; rfl
              have z2 : wr.cell? ⟨q, 1, none⟩ = some (.slice ya yn yc) := by rw [cell_of_row _ _ _ _ _ _ HCj.out.1]; rfl
              obtain ⟨vals, hvl, hrow, hel⟩ := o7.2.1
              have HRow : Hid (X7.ownsRow (D + 1) 46 2 (.slice oa on oc) k (encP vals)) := by rw [← HCkl.out]; exact hrow
              have hDq := HDq.out
              have HPut : Hid (∀ v' w', w'.ownsRow (D + 1) 46 2 v' (k + 1) (encP vals ++ [.slice xa xn xc, .slice ya yn yc]) → X7.grownBy w' (Value.slice oa on oc).ownBlock → OwnK w' (D + 1) v' (Ck ++ [(rows, ps)])) := fun v' w' h3 hg =>
                OwnK.append (p := (.slice xa xn xc, .slice ya yn yc)) hvl hrow hel ⟨ownsRow_lower c7.2.1 (by omega), ownsRow_lower c7.2.2.1 (by omega), by show rows.length ≤ _; rw [HRl.out]; omega, by show ps.length ≤ _; rw [HPl.out]; omega⟩ (by rw [HCkl.out]; exact h3) hg
              have HCN : Hid (∀ jj u, [Value.slice xa xn xc, .slice ya yn yc][jj]? = some u → X7.cell? ((⟨wr.heap.size, 0, none⟩ : Addr).add jj) = some u) := by
                unfold Hid; rw [hX7]
                intro jj u hj
                match jj, hj with
                | 0, hj => simp at hj; subst hj; simp [go_sem, Addr.add]
                | 1, hj => simp at hj; subst hj; simp [go_sem, Addr.add]
              have HX7 : Hid (X7 = wr.alloc (.cells #[.slice xa xn xc, .slice ya yn yc] 46)) := hX7
              have hDX : Hid (D + 1 ≤ X7.heap.size) := o7.lt
              clear oR b7 e7 o7 c7 hvl hrow hel hX7 hDq
              go_wp2_with (at_builtin; rw [← HX7.out]; refine wpList_append_own _ rfl _ _ 22 rfl (D + 1) 46 i1 (.agg #[.slice none 0 0, .slice none 0 0]) 2 48 Try.underlying22 hi1 hy0 hy1 hy2 rfl (by decide) _ k (encP vals) rfl HRow.out ⟨wr.heap.size, 0, none⟩ 1 1 [.slice xa xn xc, .slice ya yn yc] rfl rfl HCN.out (by intro u hu; simp at hu; rcases hu with rfl | rfl <;> rfl) (by simp only [maxLen]; omega) (by omega) hDX.out ?_)
              intro v8 w8 h8 g8 _
              have o8 := HPut.out v8 w8 h8 g8
              obtain ⟨qa, qc, ev, _⟩ := OwnK.cm o8
              obtain ⟨qn, hqn⟩ : ∃ qn, qn = (Ck ++ [(rows, ps)]).length := ⟨_, rfl⟩
              rw [← hqn] at ev
              subst ev
              obtain ⟨P1, P2⟩ := HO7.out.putC g8 o8
              have HP1 : Aside (OB W b D (M.eN M.eCo (k + 1) l1).1 [] (M.eN M.eCo (k + 1) l1).2 (.slice qa qn qc) yo (w8.setCell ⟨D, 0, none⟩ (.slice qa qn qc))) := by unfold Aside; rw [HSn.out]; exact P1
              have k8 : w8.cell? ⟨D, 0, none⟩ = some (.slice oa on oc) := by rw [cell_of_row _ _ _ _ _ _ P2]; rfl
              have f8 : w8.frozen? ⟨D, 0, none⟩ = false := frozen_of_row _ _ _ _ _ P2
              clear P1 P2 o8 h8 g8 hqn z0 z1 z2 HPut HCN HRow
              go_wp2
              go_roundg (n1 - k - 1)
              case measure => omega
              case rel => exact ⟨k + 1, ro - 1, _, _, by omega, by omega, by go_num, HP1⟩
    · obtain rfl : ro = 0 := by omega
      obtain rfl : k = n1 := by omega
      obtain ⟨C, hC⟩ : ∃ C, C = (M.eN M.eCo k l1).1 := ⟨_, rfl⟩
      obtain ⟨l2, hl2⟩ : ∃ l2, l2 = (M.eN M.eCo k l1).2 := ⟨_, rfl⟩
      rw [← hC, ← hl2] at HOk
      obtain ⟨m, Em⟩ : ∃ m : Nat, (M.eB l2).1 = (m : Int) := ⟨(M.eB l2).1.toNat, by have := M.eB_range l2; omega⟩
      have hm : m < 256 := by have := M.eB_range l2; omega
      obtain ⟨l3, hl3⟩ : ∃ l3, l3 = (M.eB l2).2 := ⟨_, rfl⟩
      have hLh : M.eL M.eHd l2 = M.eN M.eHd m l3 := by unfold M.eL; rw [Em, hl3]; rfl
      have HRe : Hid (M.eRe l = ((C, (M.eN M.eHd m l3).1), (M.eN M.eHd m l3).2)) := by unfold Hid M.eRe; rw [HRe1.out, ← hC, ← hl2, hLh]
      have HK4 : Hid (∀ V, EarAt V b l2 → Calls Try.prog 27 #[.pointer (some ⟨b, 0, none⟩)] V fun e w' => e = .returned (.int .i64 (m : Int)) ∧ EarAt w' b l3 ∧ But b V w') := fun V hV => by
        have := ebyte_any b l2 V hV
        rw [Em, ← hl3] at this
        exact this
      have HEj : Hid (EarAt wr b l2) := HOk.out.2.2.2.1
      clear hC hl2 Em hl3 hLh
      go_wp2_with fail
      refine (HK4.out wr HEj.out).mono ?_
      rintro e w5 ⟨rfl, e5, b5⟩
      have HO5 : Aside (OB W b D C ((M.eN M.eHd 0 l3).1.map M.hdS) (M.eN M.eHd 0 l3).2 (.slice oa on oc) yo w5) := HOk.out.next (Bq.but b5) e5
      clear e5 b5 HK4 HEj HOk
      go_wp2_with fail
      go_loopg [11] m (fun g i wy => ∃ (j r : Nat) (y : Value), j + g = m ∧ r + j = m ∧ i = .int .i64 (r : Int) ∧ Aside (OB W b D C ((M.eN M.eHd j l3).1.map M.hdS) (M.eN M.eHd j l3).2 (.slice oa on oc) y wy))
      case atStart => exact ⟨0, m, _, by omega, by omega, rfl, HO5⟩
      case round =>
        obtain ⟨j, r, y, hjg, hrj, rfl, HOj⟩ := hrel
        obtain ⟨ya, yc, hy, _⟩ := OwnH.hs HOj.out.2.2.1
        obtain ⟨yn, hyn⟩ : ∃ yn, yn = ((M.eN M.eHd j l3).1.map M.hdS).length := ⟨_, rfl⟩
        rw [← hyn] at hy
        subst hy
        by_cases hrr : 0 < r
        · have hr3 : decide ((0 : Int) < (r : Int)) = true := by simp; omega
          have hr4 : decide (0 < r) = true := by simp; omega
          obtain ⟨la, hla⟩ : ∃ la, la = (M.eN M.eHd j l3).2 := ⟨_, rfl⟩
          have hsn := M.eN_snoc M.eHd j l3
          obtain ⟨kn, Ekn⟩ : ∃ kn : Nat, (M.eB la).1 = (kn : Int) := ⟨(M.eB la).1.toNat, by have := M.eB_range la; omega⟩
          have hkn : kn < 256 := by have := M.eB_range la; omega
          obtain ⟨lb, hlb⟩ : ∃ lb, lb = (M.eB la).2 := ⟨_, rfl⟩
          have heT : M.eT la = (lb.take kn, lb.drop kn) := by unfold M.eT; rw [Ekn, ← hlb]; rfl
          obtain ⟨av, Eav⟩ : ∃ av : Nat, (M.eB (lb.drop kn)).1 = (av : Int) := ⟨(M.eB (lb.drop kn)).1.toNat, by have := M.eB_range (lb.drop kn); omega⟩
          obtain ⟨lz, hlz⟩ : ∃ lz, lz = (M.eB (lb.drop kn)).2 := ⟨_, rfl⟩
          have heH : M.eHd la = ((lb.take kn, (av : Int)), lz) := by unfold M.eHd; rw [heT]; simp only; rw [Eav, ← hlz]
          rw [← hla, heH] at hsn
          rw [← hla] at HOj
          have HKa : Hid (∀ V, EarAt V b la → Calls Try.prog 27 #[.pointer (some ⟨b, 0, none⟩)] V fun e w' => e = .returned (.int .i64 (kn : Int)) ∧ EarAt w' b lb ∧ But b V w') := fun V hV => by
            have := ebyte_any b la V hV
            rw [Ekn, ← hlb] at this
            exact this
          have HEj : Hid (EarAt wr b la) := HOj.out.2.2.2.1
          obtain ⟨s3, hs3⟩ : ∃ s3, s3 = M.str lb := ⟨_, rfl⟩
          obtain ⟨L3, hL3⟩ : ∃ L3, L3 = lb.length := ⟨_, rfl⟩
          have hs3z : s3.size = L3 := by rw [hs3, M.str_size, hL3]
          have HS3 : Hid (s3 = M.str lb) := hs3
          have HL3 : Aside (L3 = lb.length) := hL3
          have HSnA : Hid (M.eN M.eHd (j + 1) l3 = ((M.eN M.eHd j l3).1 ++ [(lb.take kn, (av : Int))], lz)) := hsn
          have HEav : Hid ((M.eB (lb.drop kn)).1 = (av : Int) ∧ lz = (M.eB (lb.drop kn)).2) := ⟨Eav, hlz⟩
          clear hla hsn Ekn hlb heT Eav hlz heH hs3 hL3 hyn
          go_wp2_with fail
          refine (HKa.out wr HEj.out).mono ?_
          rintro e w3 ⟨rfl, e3, b3⟩
          have HO3 : Hid (OB W b D C ((M.eN M.eHd j l3).1.map M.hdS) lb (.slice oa on oc) (.slice ya yn yc) w3) := HOj.out.next (Bq.but b3) e3
          have HE3 : Hid (EarAt w3 b lb) := e3
          have hL63 : L3 ≤ 9223372036854775807 := by rw [HL3.out]; exact e3.2
          clear e3 b3 HKa HEj
          by_cases hc : L3 < kn
          · have hcc : decide ((L3 : Int) < (kn : Int)) = true := by simp; omega
            have hcn : decide (L3 < kn) = true := by simp; omega
            have htk : lb.take kn = lb.take L3 := by rw [HL3.out, List.take_of_length_le (Nat.le_refl _), List.take_of_length_le (by rw [← HL3.out]; omega)]
            have hdk : lb.drop kn = lb.drop L3 := by rw [HL3.out, List.drop_eq_nil_of_le (Nat.le_refl _), List.drop_eq_nil_of_le (by rw [← HL3.out]; omega)]
            have HSd : Hid (ByteArray.empty = M.str (lb.drop L3)) := by unfold Hid; rw [List.drop_eq_nil_of_le (by rw [← HL3.out]; omega)]; rfl
            obtain ⟨nm, hnm⟩ : ∃ nm, nm = s3.extract 0 L3 := ⟨_, rfl⟩
            have hnm2 : nm = M.str (lb.take L3) := by rw [hnm, HS3.out]; exact M.str_take lb L3
            have Hnm : Hid (nm = s3.extract 0 L3) := hnm
            have hnz : nm.size ≤ 9223372036854775807 := by rw [hnm2, M.str_size, List.length_take]; omega
            have HKz : Hid (∀ V, EarAt V b (lb.drop L3) → Calls Try.prog 27 #[.pointer (some ⟨b, 0, none⟩)] V fun e w' => e = .returned (.int .i64 (av : Int)) ∧ EarAt w' b lz ∧ But b V w') := fun V hV => by
              have := ebyte_any b (lb.drop L3) V hV
              rw [← hdk, HEav.out.1, ← HEav.out.2] at this
              exact this
            have HSn1 : Hid ((M.eN M.eHd j l3).1.map M.hdS ++ [(nm, (av : Int))] = (M.eN M.eHd (j + 1) l3).1.map M.hdS) := by unfold Hid; rw [HSnA.out, List.map_append, htk, hnm2]; rfl
            have HSn2 : Hid (lz = (M.eN M.eHd (j + 1) l3).2) := by unfold Hid; rw [HSnA.out]
            clear htk hdk hnm hnm2
            have en : s3.extract 0 L3 = nm := Hnm.out.symm
            have ed : s3.extract L3 L3 = M.str (lb.drop L3) := by rw [HS3.out]; exact M.str_drop lb L3 L3 HL3.out
            have hkl : (L3 : Int) ≤ (L3 : Int) := by omega
            obtain ⟨hx, hhx⟩ : ∃ hx, hx = w3.heap.size := ⟨_, rfl⟩
            obtain ⟨X5, hX5⟩ : ∃ X, X = w3.alloc (.cells #[.string nm, .int .i64 0] 49) := ⟨_, rfl⟩
            have b5 : Below w3.heap.size w3 X5 := by rw [hX5]; exact (Below.refl _ _).alloc (Nat.le_refl _) _
            have h50 : X5.heap[hx]? = some (.cells #[.string nm, .int .i64 0] 49 (0, 0)) := by rw [hX5, hhx]; exact heap_alloc_new _ _
            have hb3 : b < w3.heap.size := HE3.out.lt
            have hbx : b ≠ hx := by omega
            have e5 : EarAt X5 b lb := HE3.out.keep (b5.block b hb3)
            have c5 := e5.cell
            have f5 := e5.fr
            rw [← HS3.out] at c5
            have c3 := HE3.out.cell
            have f3 := HE3.out.fr
            rw [← HS3.out] at c3
            obtain ⟨Y6, hY6⟩ : ∃ Y, Y = w3.setCell ⟨b, 0, none⟩ (.string ByteArray.empty) := ⟨_, rfl⟩
            have ey : EarAt Y6 b (lb.drop L3) := by rw [hY6, HSd.out]; exact HE3.out.set _ (by simp)
            have bty : But b w3 Y6 := by rw [hY6]; exact But.set _ _ _ _
            have hys : Y6.heap.size = w3.heap.size := by rw [hY6]; simp [World.setCell]
            obtain ⟨X6, hX6⟩ : ∃ X, X = Y6.alloc (.cells #[.string nm, .int .i64 0] 49) := ⟨_, rfl⟩
            have b6 : Below Y6.heap.size Y6 X6 := by rw [hX6]; exact (Below.refl _ _).alloc (Nat.le_refl _) _
            have e6 : EarAt X6 b (lb.drop L3) := ey.keep (b6.block b ey.lt)
            have h60 : X6.heap[hx]? = some (.cells #[.string nm, .int .i64 0] 49 (0, 0)) := by rw [hX6, hhx, ← hys]; exact heap_alloc_new _ _
            have HKc : Hid (Calls Try.prog 27 #[.pointer (some ⟨b, 0, none⟩)] X6 fun e w' => e = .returned (.int .i64 (av : Int)) ∧ EarAt w' b lz ∧ But b X6 w') := HKz.out X6 e6
            have HX6 : Hid (X6 = (w3.setCell ⟨b, 0, none⟩ (.string ByteArray.empty)).alloc (.cells #[.string nm, .int .i64 0] 49)) := by rw [← hY6]; exact hX6
            have H60 : Hid (X6.heap[hx]? = some (.cells #[.string nm, .int .i64 0] 49 (0, 0))) := h60
            have HHx : Aside (hx = w3.heap.size) := hhx
            have HBQ6 : Hid (Bq b w3.heap.size w3 X6) := (Bq.but bty).trans ((Bq.below b6).mono (by rw [hys]; exact Nat.le_refl _))
            have hs6 : Hid (w3.heap.size ≤ X6.heap.size) := HBQ6.out.size
            rw [hX5] at c5 f5
            clear hX5 hX6 hY6 hhx b5 h50 e5 e6 ey bty hys b6 h60
            go_wp2_with fail
            rw [← HX6.out, ← HHx.out]
            refine HKc.out.mono ?_
            rintro e w4 ⟨rfl, e4, b4⟩
            have h40 : w4.heap[hx]? = some (.cells #[.string nm, .int .i64 0] 49 (0, 0)) := (b4.block hx (Array.getElem?_eq_some_iff.1 H60.out).1 (fun e => hbx (Option.some.inj e).symm)).trans H60.out
            have y1 : w4.cell? ⟨hx, 1, none⟩ = some (.int .i64 0) := by rw [cell_of_row _ _ _ _ _ _ h40]; rfl
            have f1 : w4.frozen? ⟨hx, 1, none⟩ = false := frozen_of_row _ _ _ _ _ h40
            obtain ⟨X7, hX7⟩ : ∃ X, X = w4.setCell ⟨hx, 1, none⟩ (.int .i64 (av : Int)) := ⟨_, rfl⟩
            have h70 : X7.heap[hx]? = some (.cells #[.string nm, .int .i64 (av : Int)] 49 (0, 0)) := by rw [hX7, heap_setCell_same _ _ _ _ _ _ h40]; rfl
            have e7 : EarAt X7 b lz := e4.keep (by rw [hX7, heap_setCell_other _ _ _ _ (by show b ≠ hx; exact hbx)])
            have bq7 : Bq b w3.heap.size w3 X7 := by
              rw [hX7]
              exact (HBQ6.out.trans ((Bq.but b4).mono hs6.out)).set (by rw [HHx.out]; exact Nat.le_refl _) _
            have o7 : OB W b D C ((M.eN M.eHd j l3).1.map M.hdS) lz (.slice oa on oc) (.slice ya yn yc) X7 := HO3.out.next bq7 e7
            obtain ⟨X8, hX8⟩ : ∃ X, X = X7.alloc (.cells #[.string nm, .int .i64 (av : Int)] 49) := ⟨_, rfl⟩
            have b8 : Below X7.heap.size X7 X8 := by rw [hX8]; exact (Below.refl _ _).alloc (Nat.le_refl _) _
            have o8 : OB W b D C ((M.eN M.eHd j l3).1.map M.hdS) lz (.slice oa on oc) (.slice ya yn yc) X8 := o7.next (Bq.below b8) (e7.keep (b8.block b e7.lt))
            have HO8 : Hid (OB W b D C ((M.eN M.eHd j l3).1.map M.hdS) lz (.slice oa on oc) (.slice ya yn yc) X8) := o8
            have HHs8 : Hid (Hs X8 (some ⟨X7.heap.size, 0, none⟩) 1 [(nm, (av : Int))]) := by rw [hX8]; exact hs_one X7 nm av hnz
            have z0 : X7.cell? ⟨D, 1, none⟩ = some (.slice ya yn yc) := by rw [cell_of_row _ _ _ _ _ _ o7.1]; rfl
            have z1 : X7.cell? ⟨hx, 0, none⟩ = some (.string nm) := by rw [cell_of_row _ _ _ _ _ _ h70]; rfl
            have z2 : X7.cell? ⟨hx, 1, none⟩ = some (.int .i64 (av : Int)) := by rw [cell_of_row _ _ _ _ _ _ h70]; rfl
            have HX7 : Hid (X7 = w4.setCell ⟨hx, 1, none⟩ (.int .i64 (av : Int))) := hX7
            have HX8 : Hid (X8 = X7.alloc (.cells #[.string nm, .int .i64 (av : Int)] 49)) := hX8
            have HS7 : Hid (X7.heap.size = w4.heap.size) := by unfold Hid; rw [hX7]; simp [World.setCell]
            rw [hX7] at z0 z1 z2
            have hlen7 : Hid ((M.eN M.eHd j l3).1.length = j) := M.eN_len _ _ _
            clear h40 h70 e4 b4 e7 bq7 o7 o8 b8 hX7 hX8 HKc c5 f5 c3 f3
            go_wp2_with (at_builtin; rw [← HX7.out]; (try rw [← HX8.out]); refine wpl_heads rfl _ _ rfl (D + 1) _ ((M.eN M.eHd j l3).1.map M.hdS) rfl HO8.out.2.2.1 (some ⟨X7.heap.size, 0, none⟩) 1 1 [(nm, (av : Int))] (by rw [HS7.out]; rfl) HHs8.out (fun h => by simp at h) (by rw [List.length_map, hlen7.out]; omega) (by have := HO8.out.lt; omega) ?_)
            intro v9 w9 o9 g9
            obtain ⟨qa, qc, ev, _⟩ := OwnH.hs o9
            obtain ⟨qn, hqn⟩ : ∃ qn, qn = ((M.eN M.eHd j l3).1.map M.hdS ++ [(nm, (av : Int))]).length := ⟨_, rfl⟩
            rw [← hqn] at ev
            subst ev
            rw [HSn1.out] at o9
            obtain ⟨P1, P2⟩ := HO8.out.putH g9 o9
            rw [HSn2.out] at P1
            have HP1 : Aside (OB W b D C ((M.eN M.eHd (j + 1) l3).1.map M.hdS) (M.eN M.eHd (j + 1) l3).2 (.slice oa on oc) (.slice qa qn qc) (w9.setCell ⟨D, 1, none⟩ (.slice qa qn qc))) := P1
            have k9 : w9.cell? ⟨D, 1, none⟩ = some (.slice ya yn yc) := by rw [cell_of_row _ _ _ _ _ _ P2]; rfl
            have f9 : w9.frozen? ⟨D, 1, none⟩ = false := frozen_of_row _ _ _ _ _ P2
            clear P1 P2 o9 g9 hqn z0 z1 z2 y1 f1
            go_wp2
            go_roundg (m - j - 1)
            case measure => omega
            case rel => exact ⟨j + 1, r - 1, _, by omega, by omega, by go_num, HP1⟩
          · have hcc : decide ((L3 : Int) < (kn : Int)) = false := by simp; omega
            have hcn : decide (L3 < kn) = false := by simp; omega
            have htk : lb.take kn = lb.take kn := rfl
            have hdk : lb.drop kn = lb.drop kn := rfl
            obtain ⟨nm, hnm⟩ : ∃ nm, nm = s3.extract 0 kn := ⟨_, rfl⟩
            have hnm2 : nm = M.str (lb.take kn) := by rw [hnm, HS3.out]; exact M.str_take lb kn
            have Hnm : Hid (nm = s3.extract 0 kn) := hnm
            have hnz : nm.size ≤ 9223372036854775807 := by rw [hnm2, M.str_size, List.length_take]; omega
            have HKz : Hid (∀ V, EarAt V b (lb.drop kn) → Calls Try.prog 27 #[.pointer (some ⟨b, 0, none⟩)] V fun e w' => e = .returned (.int .i64 (av : Int)) ∧ EarAt w' b lz ∧ But b V w') := fun V hV => by
              have := ebyte_any b (lb.drop kn) V hV
              rw [← hdk, HEav.out.1, ← HEav.out.2] at this
              exact this
            have HSn1 : Hid ((M.eN M.eHd j l3).1.map M.hdS ++ [(nm, (av : Int))] = (M.eN M.eHd (j + 1) l3).1.map M.hdS) := by unfold Hid; rw [HSnA.out, List.map_append, htk, hnm2]; rfl
            have HSn2 : Hid (lz = (M.eN M.eHd (j + 1) l3).2) := by unfold Hid; rw [HSnA.out]
            clear htk hdk hnm hnm2
            have en : s3.extract 0 kn = nm := Hnm.out.symm
            have ed : s3.extract kn L3 = M.str (lb.drop kn) := by rw [HS3.out]; exact M.str_drop lb kn L3 HL3.out
            have hkl : (kn : Int) ≤ (L3 : Int) := by omega
            obtain ⟨hx, hhx⟩ : ∃ hx, hx = w3.heap.size := ⟨_, rfl⟩
            obtain ⟨X5, hX5⟩ : ∃ X, X = w3.alloc (.cells #[.string nm, .int .i64 0] 49) := ⟨_, rfl⟩
            have b5 : Below w3.heap.size w3 X5 := by rw [hX5]; exact (Below.refl _ _).alloc (Nat.le_refl _) _
            have h50 : X5.heap[hx]? = some (.cells #[.string nm, .int .i64 0] 49 (0, 0)) := by rw [hX5, hhx]; exact heap_alloc_new _ _
            have hb3 : b < w3.heap.size := HE3.out.lt
            have hbx : b ≠ hx := by omega
            have e5 : EarAt X5 b lb := HE3.out.keep (b5.block b hb3)
            have c5 := e5.cell
            have f5 := e5.fr
            rw [← HS3.out] at c5
            have c3 := HE3.out.cell
            have f3 := HE3.out.fr
            rw [← HS3.out] at c3
            obtain ⟨Y6, hY6⟩ : ∃ Y, Y = w3.setCell ⟨b, 0, none⟩ (.string (M.str (lb.drop kn))) := ⟨_, rfl⟩
            have ey : EarAt Y6 b (lb.drop kn) := by rw [hY6]; exact HE3.out.set _ (by simp)
            have bty : But b w3 Y6 := by rw [hY6]; exact But.set _ _ _ _
            have hys : Y6.heap.size = w3.heap.size := by rw [hY6]; simp [World.setCell]
            obtain ⟨X6, hX6⟩ : ∃ X, X = Y6.alloc (.cells #[.string nm, .int .i64 0] 49) := ⟨_, rfl⟩
            have b6 : Below Y6.heap.size Y6 X6 := by rw [hX6]; exact (Below.refl _ _).alloc (Nat.le_refl _) _
            have e6 : EarAt X6 b (lb.drop kn) := ey.keep (b6.block b ey.lt)
            have h60 : X6.heap[hx]? = some (.cells #[.string nm, .int .i64 0] 49 (0, 0)) := by rw [hX6, hhx, ← hys]; exact heap_alloc_new _ _
            have HKc : Hid (Calls Try.prog 27 #[.pointer (some ⟨b, 0, none⟩)] X6 fun e w' => e = .returned (.int .i64 (av : Int)) ∧ EarAt w' b lz ∧ But b X6 w') := HKz.out X6 e6
            have HX6 : Hid (X6 = (w3.setCell ⟨b, 0, none⟩ (.string (M.str (lb.drop kn)))).alloc (.cells #[.string nm, .int .i64 0] 49)) := by rw [← hY6]; exact hX6
            have H60 : Hid (X6.heap[hx]? = some (.cells #[.string nm, .int .i64 0] 49 (0, 0))) := h60
            have HHx : Aside (hx = w3.heap.size) := hhx
            have HBQ6 : Hid (Bq b w3.heap.size w3 X6) := (Bq.but bty).trans ((Bq.below b6).mono (by rw [hys]; exact Nat.le_refl _))
            have hs6 : Hid (w3.heap.size ≤ X6.heap.size) := HBQ6.out.size
            rw [hX5] at c5 f5
            clear hX5 hX6 hY6 hhx b5 h50 e5 e6 ey bty hys b6 h60
            go_wp2_with fail
            rw [← HX6.out, ← HHx.out]
            refine HKc.out.mono ?_
            rintro e w4 ⟨rfl, e4, b4⟩
            have h40 : w4.heap[hx]? = some (.cells #[.string nm, .int .i64 0] 49 (0, 0)) := (b4.block hx (Array.getElem?_eq_some_iff.1 H60.out).1 (fun e => hbx (Option.some.inj e).symm)).trans H60.out
            have y1 : w4.cell? ⟨hx, 1, none⟩ = some (.int .i64 0) := by rw [cell_of_row _ _ _ _ _ _ h40]; rfl
            have f1 : w4.frozen? ⟨hx, 1, none⟩ = false := frozen_of_row _ _ _ _ _ h40
            obtain ⟨X7, hX7⟩ : ∃ X, X = w4.setCell ⟨hx, 1, none⟩ (.int .i64 (av : Int)) := ⟨_, rfl⟩
            have h70 : X7.heap[hx]? = some (.cells #[.string nm, .int .i64 (av : Int)] 49 (0, 0)) := by rw [hX7, heap_setCell_same _ _ _ _ _ _ h40]; rfl
            have e7 : EarAt X7 b lz := e4.keep (by rw [hX7, heap_setCell_other _ _ _ _ (by show b ≠ hx; exact hbx)])
            have bq7 : Bq b w3.heap.size w3 X7 := by
              rw [hX7]
              exact (HBQ6.out.trans ((Bq.but b4).mono hs6.out)).set (by rw [HHx.out]; exact Nat.le_refl _) _
            have o7 : OB W b D C ((M.eN M.eHd j l3).1.map M.hdS) lz (.slice oa on oc) (.slice ya yn yc) X7 := HO3.out.next bq7 e7
            obtain ⟨X8, hX8⟩ : ∃ X, X = X7.alloc (.cells #[.string nm, .int .i64 (av : Int)] 49) := ⟨_, rfl⟩
            have b8 : Below X7.heap.size X7 X8 := by rw [hX8]; exact (Below.refl _ _).alloc (Nat.le_refl _) _
            have o8 : OB W b D C ((M.eN M.eHd j l3).1.map M.hdS) lz (.slice oa on oc) (.slice ya yn yc) X8 := o7.next (Bq.below b8) (e7.keep (b8.block b e7.lt))
            have HO8 : Hid (OB W b D C ((M.eN M.eHd j l3).1.map M.hdS) lz (.slice oa on oc) (.slice ya yn yc) X8) := o8
            have HHs8 : Hid (Hs X8 (some ⟨X7.heap.size, 0, none⟩) 1 [(nm, (av : Int))]) := by rw [hX8]; exact hs_one X7 nm av hnz
            have z0 : X7.cell? ⟨D, 1, none⟩ = some (.slice ya yn yc) := by rw [cell_of_row _ _ _ _ _ _ o7.1]; rfl
            have z1 : X7.cell? ⟨hx, 0, none⟩ = some (.string nm) := by rw [cell_of_row _ _ _ _ _ _ h70]; rfl
            have z2 : X7.cell? ⟨hx, 1, none⟩ = some (.int .i64 (av : Int)) := by rw [cell_of_row _ _ _ _ _ _ h70]; rfl
            have HX7 : Hid (X7 = w4.setCell ⟨hx, 1, none⟩ (.int .i64 (av : Int))) := hX7
            have HX8 : Hid (X8 = X7.alloc (.cells #[.string nm, .int .i64 (av : Int)] 49)) := hX8
            have HS7 : Hid (X7.heap.size = w4.heap.size) := by unfold Hid; rw [hX7]; simp [World.setCell]
            rw [hX7] at z0 z1 z2
            have hlen7 : Hid ((M.eN M.eHd j l3).1.length = j) := M.eN_len _ _ _
            clear h40 h70 e4 b4 e7 bq7 o7 o8 b8 hX7 hX8 HKc c5 f5 c3 f3
            go_wp2_with (at_builtin; rw [← HX7.out]; (try rw [← HX8.out]); refine wpl_heads rfl _ _ rfl (D + 1) _ ((M.eN M.eHd j l3).1.map M.hdS) rfl HO8.out.2.2.1 (some ⟨X7.heap.size, 0, none⟩) 1 1 [(nm, (av : Int))] (by rw [HS7.out]; rfl) HHs8.out (fun h => by simp at h) (by rw [List.length_map, hlen7.out]; omega) (by have := HO8.out.lt; omega) ?_)
            intro v9 w9 o9 g9
            obtain ⟨qa, qc, ev, _⟩ := OwnH.hs o9
            obtain ⟨qn, hqn⟩ : ∃ qn, qn = ((M.eN M.eHd j l3).1.map M.hdS ++ [(nm, (av : Int))]).length := ⟨_, rfl⟩
            rw [← hqn] at ev
            subst ev
            rw [HSn1.out] at o9
            obtain ⟨P1, P2⟩ := HO8.out.putH g9 o9
            rw [HSn2.out] at P1
            have HP1 : Aside (OB W b D C ((M.eN M.eHd (j + 1) l3).1.map M.hdS) (M.eN M.eHd (j + 1) l3).2 (.slice oa on oc) (.slice qa qn qc) (w9.setCell ⟨D, 1, none⟩ (.slice qa qn qc))) := P1
            have k9 : w9.cell? ⟨D, 1, none⟩ = some (.slice ya yn yc) := by rw [cell_of_row _ _ _ _ _ _ P2]; rfl
            have f9 : w9.frozen? ⟨D, 1, none⟩ = false := frozen_of_row _ _ _ _ _ P2
            clear P1 P2 o9 g9 hqn z0 z1 z2 y1 f1
            go_wp2
            go_roundg (m - j - 1)
            case measure => omega
            case rel => exact ⟨j + 1, r - 1, _, by omega, by omega, by go_num, HP1⟩
        · obtain rfl : r = 0 := by omega
          obtain rfl : j = m := by omega
          obtain ⟨H, hH⟩ : ∃ H, H = (M.eN M.eHd j l3).1.map M.hdS := ⟨_, rfl⟩
          rw [← hH] at HOj
          have hread := M.readR_e l
          rw [HRe.out] at hread
          simp only at hread
          rw [← hH] at hread
          obtain ⟨E, hE⟩ : ∃ E, E = M.rchk C H := ⟨_, rfl⟩
          rw [← hE] at hread
          have HE : Hid (E = M.rchk C H) := hE
          have HRead : Hid (M.readR l = if E = 0 ∧ M.bytesR C H = l then some (C, H) else none) := hread
          have o := HOj.out
          have RO : RepoOwn wr (D + 1) (.agg #[.slice oa on oc, .slice ya yn yc]) C H := ⟨_, _, rfl, o.2.1, o.2.2.1⟩
          have HRO : Hid (RepoOwn wr (D + 1) (.agg #[.slice oa on oc, .slice ya yn yc]) C H) := RO
          have RV : RepoV wr oa on oc C ya yn yc H := by
            obtain ⟨a', c', a2', c2', ev, V⟩ := RO.v
            simp at ev
            obtain ⟨⟨rfl, e1, rfl⟩, rfl, e2, rfl⟩ := ev
            rw [← e1, ← e2] at V
            exact V
          have HKE : Hid (Calls Try.prog 6 #[.agg #[.slice oa on oc, .slice ya yn yc]] wr fun e w' => e = .returned (.int .i64 E) ∧ Below wr.heap.size wr w') := by rw [hE]; exact rerror_any oa on oc C ya yn yc H wr RV.cm RV.nm RV.hs RV.hm
          have HRV : Hid (RepoV wr oa on oc C ya yn yc H) := RV
          have hpD : p < D := by have := HDe.out; omega
          have hpb : p ≠ b := by have := HBe.out; omega
          have hbw : Below w.heap.size w wr := HB.out.trans (o.2.2.2.2.1.belowW (by have := HP.out; omega) (by have := HP.out; have := HBe.out; omega))
          have rW : wr.heap[p]? = some (.cells #[.slice none 0 0, .slice none 0 0] 25 (0, 0)) := (o.2.2.2.2.1.blk p hpD hpb).trans HQ0.out
          have oD := o.1
          have hDl := o.lt
          have HFin : Hid (∀ (V : World) (u v : Value), Below wr.heap.size wr V → (((V.setCell ⟨p, 0, none⟩ u).setCell ⟨p, 1, none⟩ v).cell? ⟨p, 0, none⟩ = some u ∧ ((V.setCell ⟨p, 0, none⟩ u).setCell ⟨p, 1, none⟩ v).cell? ⟨p, 1, none⟩ = some v ∧ Below w.heap.size w ((V.setCell ⟨p, 0, none⟩ u).setCell ⟨p, 1, none⟩ v) ∧ V.cell? ⟨p, 0, none⟩ = some (.slice none 0 0) ∧ V.cell? ⟨p, 1, none⟩ = some (.slice none 0 0) ∧ V.frozen? ⟨p, 0, none⟩ = false ∧ V.frozen? ⟨p, 1, none⟩ = false ∧ V.heap[p]? = some (.cells #[.slice none 0 0, .slice none 0 0] 25 (0, 0)))) := fun V u v hV => by
            have r1 : V.heap[p]? = some (.cells #[.slice none 0 0, .slice none 0 0] 25 (0, 0)) := (hV.block p (Nat.lt_trans hpD hDl)).trans rW
            obtain ⟨g1, _, _⟩ := res_set r1 u v
            have hwR : w.heap.size ≤ p := by have := HP.out; omega
            have hbV : Below w.heap.size w V := hbw.trans (hV.mono hbw.size)
            exact ⟨by rw [cell_of_row _ _ _ _ _ _ g1]; rfl, by rw [cell_of_row _ _ _ _ _ _ g1]; rfl, (hbV.setCell (p := ⟨p, 0, none⟩) hwR _).setCell (p := ⟨p, 1, none⟩) hwR _, by rw [cell_of_row _ _ _ _ _ _ r1]; rfl, by rw [cell_of_row _ _ _ _ _ _ r1]; rfl, frozen_of_row _ _ _ _ _ r1, frozen_of_row _ _ _ _ _ r1, r1⟩
          have HOut : Hid (∀ V, Below wr.heap.size wr V → V.cell? ⟨D, 0, none⟩ = some (.slice oa on oc) ∧ V.cell? ⟨D, 1, none⟩ = some (.slice ya yn yc)) := fun V hV => by
            have r1 := (hV.block D hDl).trans oD
            exact ⟨by rw [cell_of_row _ _ _ _ _ _ r1]; rfl, by rw [cell_of_row _ _ _ _ _ _ r1]; rfl⟩
          obtain ⟨d0, d1⟩ := HOut.out wr (Below.refl _ _)
          have HWD : Hid (w.heap.size ≤ D + 1) := by unfold Hid; have := HP.out; omega
          clear hH hread hE o RO RV rW oD hDl hbw hpD hpb HOj hyn
          go_wp2_with fail
          refine HKE.out.mono ?_
          rintro e w6 ⟨rfl, b6⟩
          clear d0 d1
          by_cases hE0 : E = 0
          · subst hE0
            obtain ⟨so, hso⟩ : ∃ so, so = M.str (M.bytesR C H) := ⟨_, rfl⟩
            have RV6 := HRV.out.later b6
            have HKB : Hid (Calls Try.prog 7 #[.agg #[.slice oa on oc, .slice ya yn yc]] w6 fun e w' => e = .returned (.string so) ∧ Below w6.heap.size w6 w') := by rw [hso]; exact rbytes_any oa on oc C ya yn yc H w6 RV6.cm RV6.hs HE.out.symm
            obtain ⟨d0, d1⟩ := HOut.out w6 b6
            have HSo : Hid (so = M.str (M.bytesR C H)) := hso
            have HB6 : Hid (Below wr.heap.size wr w6) := b6
            clear RV6 hso b6
            go_wp2_with fail
            refine HKB.out.mono ?_
            rintro e w7 ⟨rfl, b7⟩
            have b67 : Below wr.heap.size wr w7 := HB6.out.trans (b7.mono HB6.out.size)
            clear d0 d1 b7
            by_cases hEq : M.bytesR C H = l
            · have hss : so = s := by rw [HSo.out, hEq, HS.out]
              subst hss
              have HR2 : Hid (M.readR l = some (C, H)) := by unfold Hid; rw [HRead.out, if_pos ⟨by first | exact trivial | rfl, hEq⟩]
              obtain ⟨d0, d1⟩ := HOut.out w7 b67
              obtain ⟨x0, x1, bX, g0, g1, f0, f1, rX⟩ := HFin.out w7 (.slice oa on oc) (.slice ya yn yc) b67
              obtain ⟨X, hX⟩ : ∃ X, X = (w7.setCell ⟨p, 0, none⟩ (.slice oa on oc)).setCell ⟨p, 1, none⟩ (.slice ya yn yc) := ⟨_, rfl⟩
              rw [← hX] at x0 x1 bX
              have HX : Hid (X = (w7.setCell ⟨p, 0, none⟩ (.slice oa on oc)).setCell ⟨p, 1, none⟩ (.slice ya yn yc)) := hX
              have HX0 : Aside (X.cell? ⟨p, 0, none⟩ = some (.slice oa on oc) ∧ X.cell? ⟨p, 1, none⟩ = some (.slice ya yn yc)) := ⟨x0, x1⟩
              have HBX : Hid (Below w.heap.size w X) := bX
              have HOX : Hid (RepoOwn X w.heap.size (.agg #[.slice oa on oc, .slice ya yn yc]) C H) := by
                obtain ⟨xx, yy, e, h4, h5⟩ := HRO.out.later b67
                simp at e
                obtain ⟨rfl, rfl⟩ := e
                unfold Hid
                rw [hX]
                exact (repoOwn_set rX h4 h5).lower HWD.out
              clear x0 x1 bX rX hX hEq
              go_wp2
              rw [← HX.out]
              obtain ⟨y0, y1⟩ := HX0.out
              refine bodyPost_ret (v := .tuple #[.agg #[.slice oa on oc, .slice ya yn yc], .bool true]) (by simp [results, Try.results11, go_sem, y0, y1]) rfl ?_
              exact ⟨HBX.out, Or.inr ⟨C, H, _, HR2.out, rfl, HOX.out⟩⟩
            · have HR2 : Hid (M.readR l = none) := by unfold Hid; rw [HRead.out, if_neg (fun h => hEq h.2)]
              have hs1 : (so.toList == s.toList) = false := by
                apply Bool.eq_false_iff.2
                intro h
                have h2 := eq_of_beq h
                rw [ByteArray.toList_eq, ByteArray.toList_eq, HSo.out, HS.out] at h2
                simp [M.str] at h2
                exact hEq h2
              obtain ⟨x0, x1, bX, g0, g1, f0, f1, _⟩ := HFin.out w7 (.slice none 0 0) (.slice none 0 0) b67
              obtain ⟨X, hX⟩ : ∃ X, X = (w7.setCell ⟨p, 0, none⟩ (.slice none 0 0)).setCell ⟨p, 1, none⟩ (.slice none 0 0) := ⟨_, rfl⟩
              rw [← hX] at x0 x1 bX
              have HX : Hid (X = (w7.setCell ⟨p, 0, none⟩ (.slice none 0 0)).setCell ⟨p, 1, none⟩ (.slice none 0 0)) := hX
              have HX0 : Aside (X.cell? ⟨p, 0, none⟩ = some (.slice none 0 0) ∧ X.cell? ⟨p, 1, none⟩ = some (.slice none 0 0)) := ⟨x0, x1⟩
              have HBX : Hid (Below w.heap.size w X) := bX
              clear x0 x1 bX hX hEq
              go_wp2
              rw [← HX.out]
              obtain ⟨y0, y1⟩ := HX0.out
              refine bodyPost_ret (v := .tuple #[.agg #[.slice none 0 0, .slice none 0 0], .bool false]) (by simp [results, Try.results11, go_sem, y0, y1]) rfl ?_
              exact ⟨HBX.out, Or.inl ⟨HR2.out, rfl⟩⟩
          · have hEb : (E != 0) = true := by simp [hE0]
            have HR2 : Hid (M.readR l = none) := by unfold Hid; rw [HRead.out, if_neg (fun h => hE0 h.1)]
            have b67 := b6
            obtain ⟨x0, x1, bX, g0, g1, f0, f1, _⟩ := HFin.out w6 (.slice none 0 0) (.slice none 0 0) b67
            obtain ⟨X, hX⟩ : ∃ X, X = (w6.setCell ⟨p, 0, none⟩ (.slice none 0 0)).setCell ⟨p, 1, none⟩ (.slice none 0 0) := ⟨_, rfl⟩
            rw [← hX] at x0 x1 bX
            have HX : Hid (X = (w6.setCell ⟨p, 0, none⟩ (.slice none 0 0)).setCell ⟨p, 1, none⟩ (.slice none 0 0)) := hX
            have HX0 : Aside (X.cell? ⟨p, 0, none⟩ = some (.slice none 0 0) ∧ X.cell? ⟨p, 1, none⟩ = some (.slice none 0 0)) := ⟨x0, x1⟩
            have HBX : Hid (Below w.heap.size w X) := bX
            clear x0 x1 bX hX hE0
            go_wp2
            rw [← HX.out]
            obtain ⟨y0, y1⟩ := HX0.out
            refine bodyPost_ret (v := .tuple #[.agg #[.slice none 0 0, .slice none 0 0], .bool false]) (by simp [results, Try.results11, go_sem, y0, y1]) rfl ?_
            exact ⟨HBX.out, Or.inl ⟨HR2.out, rfl⟩⟩
end Go.Proofs.Ytcgpgflnihjpiag

namespace Go.Proofs.Ytcgpgflnihjpiag
open Go.ChangeShapes Go.WideShapes Go.ChangeAt Go.RowKit

theorem repo_four {w : World} {base : Nat} {v : Value} {C : List M.Com} {H : List M.Hd} (h : RepoOwn w base v C H) {n m : Nat} (hn : n = C.length) (hm : m = H.length) : ∃ x1 x2 x3 x4, v = .agg #[.slice x1 n x2, .slice x3 m x4] ∧ RepoV w x1 n x2 C x3 m x4 H := by
  obtain ⟨x1, x2, x3, x4, e, V⟩ := h.v
  rw [← hn, ← hm] at e V
  exact ⟨x1, x2, x3, x4, e, V⟩

set_option maxRecDepth 100000 in
set_option maxHeartbeats 16000000 in
theorem wireWrites_walk (a : Option Addr) (n cap : Nat) (C : List M.Com) (a2 : Option Addr) (n2 cap2 : Nat) (H : List M.Hd) (b : ByteArray) (w : World) (hV : RepoV w a n cap C a2 n2 cap2 H) (hbs : b.size ≤ 9223372036854775807) :
    Calls Try.prog 3 #[.agg #[.slice a n cap, .slice a2 n2 cap2], .string b] w fun e w' => e = .returned (.bool true) ∧ Below w.heap.size w w' := by
  obtain ⟨lb, hlb⟩ : ∃ lb, lb = b.data.toList := ⟨_, rfl⟩
  have htl : M.str lb = b := by rw [hlb]; exact M.str_back b
  obtain ⟨L, hL⟩ : ∃ L, L = lb.length := ⟨_, rfl⟩
  have hsz : b.size = L := by rw [← htl, M.str_size, hL]
  have hL63 : L ≤ 9223372036854775807 := by omega
  have KR : ∀ V : World, Calls Try.prog 8 #[.string (M.str lb)] V _ := fun V => wread_any lb V (by omega)
  have KF : ∀ V : World, Calls Try.prog 11 #[.string (M.str lb)] V _ := fun V => rfrom_any lb V (by omega)
  rw [htl] at KR KF
  have HKbig : Hid (4096 < L → ∀ V, Calls Try.prog 8 #[.string b] V fun e w' => e = .returned (.tuple #[.agg #[.slice none 0 0, .slice none 0 0], .int .i64 2]) ∧ Below V.heap.size V w') := fun h V => by
    refine (KR V).mono ?_
    rintro e w' ⟨hb, ⟨_, rfl⟩ | ⟨h2, _⟩ | ⟨h2, _⟩⟩
    · exact ⟨rfl, hb⟩
    · omega
    · omega
  have HKnone : Hid (L ≤ 4096 → M.readR lb = none → ∀ V, Calls Try.prog 8 #[.string b] V fun e w' => e = .returned (.tuple #[.agg #[.slice none 0 0, .slice none 0 0], .int .i64 1]) ∧ Below V.heap.size V w') := fun h hn V => by
    refine (KR V).mono ?_
    rintro e w' ⟨hb, ⟨h2, _⟩ | ⟨_, _, rfl⟩ | ⟨_, C', H', v, h2, _⟩⟩
    · omega
    · exact ⟨rfl, hb⟩
    · rw [hn] at h2; cases h2
  have HKsome : Hid (L ≤ 4096 → ∀ CR HR nR mR, M.readR lb = some (CR, HR) → nR = CR.length → mR = HR.length → ∀ V, Calls Try.prog 8 #[.string b] V fun e w' => ∃ x1 x2 x3 x4, e = .returned (.tuple #[.agg #[.slice x1 nR x2, .slice x3 mR x4], .int .i64 0]) ∧ RepoV w' x1 nR x2 CR x3 mR x4 HR ∧ Below V.heap.size V w') := fun h CR HR nR mR hs hn hm V => by
    refine (KR V).mono ?_
    rintro e w' ⟨hb, ⟨h2, _⟩ | ⟨_, h2, _⟩ | ⟨_, C', H', v, h2, rfl, ho⟩⟩
    · omega
    · rw [hs] at h2; cases h2
    · rw [hs] at h2
      simp only [Option.some.injEq, Prod.mk.injEq] at h2
      obtain ⟨rfl, rfl⟩ := h2
      obtain ⟨x1, x2, x3, x4, rfl, V4⟩ := repo_four ho hn hm
      exact ⟨x1, x2, x3, x4, rfl, V4, hb⟩
  have HFnone : Hid (M.readR lb = none → ∀ V, Calls Try.prog 11 #[.string b] V fun e w' => e = .returned (.tuple #[.agg #[.slice none 0 0, .slice none 0 0], .bool false]) ∧ Below V.heap.size V w') := fun hn V => by
    refine (KF V).mono ?_
    rintro e w' ⟨hb, ⟨_, rfl⟩ | ⟨C', H', v, h2, _⟩⟩
    · exact ⟨rfl, hb⟩
    · rw [hn] at h2; cases h2
  have HFsome : Hid (∀ CR HR nR mR, M.readR lb = some (CR, HR) → nR = CR.length → mR = HR.length → ∀ V, Calls Try.prog 11 #[.string b] V fun e w' => ∃ x1 x2 x3 x4, e = .returned (.tuple #[.agg #[.slice x1 nR x2, .slice x3 mR x4], .bool true]) ∧ RepoV w' x1 nR x2 CR x3 mR x4 HR ∧ Below V.heap.size V w') := fun CR HR nR mR hs hn hm V => by
    refine (KF V).mono ?_
    rintro e w' ⟨hb, ⟨h2, _⟩ | ⟨C', H', v, h2, rfl, ho⟩⟩
    · rw [hs] at h2; cases h2
    · rw [hs] at h2
      simp only [Option.some.injEq, Prod.mk.injEq] at h2
      obtain ⟨rfl, rfl⟩ := h2
      obtain ⟨x1, x2, x3, x4, rfl, V4⟩ := repo_four ho hn hm
      exact ⟨x1, x2, x3, x4, rfl, V4, hb⟩
  have HRd : Hid (M.readR lb = none ∨ ∃ CR HR nR mR, M.readR lb = some (CR, HR) ∧ nR = CR.length ∧ mR = HR.length) := by
    cases h : M.readR lb with
    | none => exact Or.inl rfl
    | some x => exact Or.inr ⟨x.1, x.2, _, _, rfl, rfl, rfl⟩
  obtain ⟨p, hp⟩ : ∃ p, p = w.heap.size := ⟨_, rfl⟩
  obtain ⟨W, hW⟩ : ∃ W, W = w.alloc (.cells #[.slice a n cap, .slice a2 n2 cap2] 25) := ⟨_, rfl⟩
  have hb : Below w.heap.size w W := by rw [hW]; exact (Below.refl _ _).alloc (Nat.le_refl _) _
  have hW0 : W.heap[p]? = some (.cells #[.slice a n cap, .slice a2 n2 cap2] 25 (0, 0)) := by rw [hW, hp]; exact heap_alloc_new _ _
  have HVW : Hid (RepoV W a n cap C a2 n2 cap2 H) := hV.later hb
  have HBx : Hid (∀ V, Below W.heap.size W V → V.cell? ⟨p, 0, none⟩ = some (.slice a n cap) ∧ V.cell? ⟨p, 1, none⟩ = some (.slice a2 n2 cap2)) := fun V hV => by
    have blk := (hV.block p (Array.getElem?_eq_some_iff.1 hW0).1).trans hW0
    exact ⟨by rw [cell_of_row _ _ _ _ _ _ blk]; rfl, by rw [cell_of_row _ _ _ _ _ _ blk]; rfl⟩
  obtain ⟨E, hE⟩ : ∃ E, E = M.rchk C H := ⟨_, rfl⟩
  obtain ⟨so, hso⟩ : ∃ so, so = M.str (if M.rchk C H = 0 then M.bytesR C H else []) := ⟨_, rfl⟩
  have K1 := wwrite_any a n cap C a2 n2 cap2 H W HVW.out.cm HVW.out.nm HVW.out.hs HVW.out.hm
  rw [← hso, ← hE] at K1
  have HK1 : Hid (Calls Try.prog 5 #[.agg #[.slice a n cap, .slice a2 n2 cap2]] W fun e w' => e = .returned (.tuple #[.string so, .int .i64 E]) ∧ Below W.heap.size W w') := K1
  have HK2 : Hid (∀ V, Below W.heap.size W V → Calls Try.prog 6 #[.agg #[.slice a n cap, .slice a2 n2 cap2]] V fun e w' => e = .returned (.int .i64 E) ∧ Below V.heap.size V w') := fun V hV => by
    have v := HVW.out.later hV
    rw [hE]; exact rerror_any a n cap C a2 n2 cap2 H V v.cm v.nm v.hs v.hm
  have HK3 : Hid (E = 0 → ∀ V, Below W.heap.size W V → Calls Try.prog 7 #[.agg #[.slice a n cap, .slice a2 n2 cap2]] V fun e w' => e = .returned (.string so) ∧ Below V.heap.size V w') := fun h0 V hV => by
    have v := HVW.out.later hV
    have hr : M.rchk C H = 0 := by rw [← hE]; exact h0
    rw [hso, if_pos hr]; exact rbytes_any a n cap C a2 n2 cap2 H V v.cm v.hs hr
  have HSo : Hid (E ≠ 0 → so = ⟨#[]⟩) := fun h => by rw [hso, if_neg (by rw [← hE]; exact h)]; rfl
  have HW : Hid (W = w.alloc (.cells #[.slice a n cap, .slice a2 n2 cap2] 25)) := hW
  have HP : Aside (p = w.heap.size) := hp
  clear hW hp hW0 hV hE hso K1 KR KF hlb htl hL
  go_enter Try.func3, Try.ntmps3
  go_wp2_with fail
  rw [← HW.out, ← HP.out]
  refine HK1.out.mono ?_
  rintro e w1 ⟨rfl, b1⟩
  obtain ⟨k0, k1⟩ := HBx.out w1 b1
  have HB1 : Hid (Below W.heap.size W w1) := b1
  clear b1 HK1
  go_wp2_with fail
  refine (HK2.out w1 HB1.out).mono ?_
  rintro e w2 ⟨rfl, b2⟩
  have e2 : Below W.heap.size W w2 := dbelow2 HB1.out b2
  have c2 := dbelow2 hb e2
  clear b2 k0 k1 HK2
  by_cases hE0 : E = 0
  · have hEb : (E == 0) = true := by simp [hE0]
    obtain ⟨k0, k1⟩ := HBx.out w2 e2
    have HK4 : Hid (Calls Try.prog 7 #[.agg #[.slice a n cap, .slice a2 n2 cap2]] w2 fun e w' => e = .returned (.string so) ∧ Below w2.heap.size w2 w') := HK3.out hE0 w2 e2
    clear hE0
    go_wp2_with fail
    refine HK4.out.mono ?_
    rintro e w3 ⟨rfl, b3⟩
    have c3 := dbelow2 c2 b3
    clear b3 k0 k1 HK4 HK3
    by_cases hL4 : 4096 < L
    case pos =>
      have hLb : decide ((4096 : Int) < (L : Int)) = true := by simp; omega
      have HKr := HKbig.out hL4
      have HKr : Hid (∀ V, Calls Try.prog 8 #[.string b] V fun e w' => e = .returned (.tuple #[.agg #[.slice none 0 0, .slice none 0 0], .int .i64 2]) ∧ Below V.heap.size V w') := HKr
      clear hL4
      go_wp2_with fail
      refine (HKr.out w3).mono ?_
      rintro e y1 ⟨rfl, b1⟩
      have d1 := dbelow2 c3 b1
      obtain ⟨p9, hp9⟩ : ∃ p, p = y1.heap.size := ⟨_, rfl⟩
      obtain ⟨X9, hX9⟩ : ∃ X, X = y1.alloc (.cells #[.slice none 0 0, .slice none 0 0] 25) := ⟨_, rfl⟩
      have bX9 : Below y1.heap.size y1 X9 := by rw [hX9]; exact (Below.refl _ _).alloc (Nat.le_refl _) _
      have d9 := dbelow2 d1 bX9
      have hX90 : X9.heap[p9]? = some (.cells #[.slice none 0 0, .slice none 0 0] 25 (0, 0)) := by rw [hX9, hp9]; exact heap_alloc_new _ _
      have HBX9 : Hid (∀ V, Below X9.heap.size X9 V → V.heap[p9]? = some (.cells #[.slice none 0 0, .slice none 0 0] 25 (0, 0))) := fun V hV => (hV.block p9 (Array.getElem?_eq_some_iff.1 hX90).1).trans hX90
      have HXX9 : Hid (X9 = y1.alloc (.cells #[.slice none 0 0, .slice none 0 0] 25)) := hX9
      have HPp9 : Aside (p9 = y1.heap.size) := hp9
      clear hX9 hp9 bX9 hX90 b1
      go_wp2_with fail
      rw [← HXX9.out, ← HPp9.out]
      refine (wbegun_any X9).mono ?_
      rintro e y3 ⟨rfl, b3⟩
      have blk := HBX9.out y3 b3
      have g0 : y3.cell? ⟨p9, 0, none⟩ = some (.slice none 0 0) := by rw [cell_of_row _ _ _ _ _ _ blk]; rfl
      have g1 : y3.cell? ⟨p9, 1, none⟩ = some (.slice none 0 0) := by rw [cell_of_row _ _ _ _ _ _ blk]; rfl
      have KS : Hid (Calls Try.prog 10 #[.agg #[.slice none 0 0, .slice none 0 0], .agg #[.slice none 0 0, .slice none 0 0]] y3 fun e w' => e = .returned (.bool true) ∧ Below y3.heap.size y3 w') := srepos_yes none none 0 0 0 [] none none 0 0 0 [] y3 ⟨rfl, Or.inl rfl⟩ ⟨rfl, Or.inl rfl⟩ (by omega) ⟨rfl, Or.inl rfl⟩ ⟨rfl, Or.inl rfl⟩ (by omega)
      have d3 := dbelow2 d9 b3
      clear blk b3
      go_wp2_with fail
      refine KS.out.mono ?_
      rintro e y4 ⟨rfl, b4⟩
      have bZ := dbelow2 d3 b4
      clear b4 g0 g1 KS
      go_wp2
      go_ret
      exact ⟨rfl, bZ⟩
    have hLb : decide ((4096 : Int) < (L : Int)) = false := by simp; omega
    rcases HRd.out with HRn | ⟨CR, HR, nR, mR, hRs, hnR, hmR⟩
    · have HKr : Hid (∀ V, Calls Try.prog 8 #[.string b] V fun e w' => e = .returned (.tuple #[.agg #[.slice none 0 0, .slice none 0 0], .int .i64 1]) ∧ Below V.heap.size V w') := HKnone.out (by omega) HRn
      have HKf : Hid (∀ V, Calls Try.prog 11 #[.string b] V fun e w' => e = .returned (.tuple #[.agg #[.slice none 0 0, .slice none 0 0], .bool false]) ∧ Below V.heap.size V w') := HFnone.out HRn
      clear hL4 HRn
      go_wp2_with fail
      refine (HKr.out w3).mono ?_
      rintro e y1 ⟨rfl, b1⟩
      have d1 := dbelow2 c3 b1
      obtain ⟨p9, hp9⟩ : ∃ p, p = y1.heap.size := ⟨_, rfl⟩
      obtain ⟨X9, hX9⟩ : ∃ X, X = y1.alloc (.cells #[.slice none 0 0, .slice none 0 0] 25) := ⟨_, rfl⟩
      have bX9 : Below y1.heap.size y1 X9 := by rw [hX9]; exact (Below.refl _ _).alloc (Nat.le_refl _) _
      have d9 := dbelow2 d1 bX9
      have hX90 : X9.heap[p9]? = some (.cells #[.slice none 0 0, .slice none 0 0] 25 (0, 0)) := by rw [hX9, hp9]; exact heap_alloc_new _ _
      have HBX9 : Hid (∀ V, Below X9.heap.size X9 V → V.heap[p9]? = some (.cells #[.slice none 0 0, .slice none 0 0] 25 (0, 0))) := fun V hV => (hV.block p9 (Array.getElem?_eq_some_iff.1 hX90).1).trans hX90
      have HXX9 : Hid (X9 = y1.alloc (.cells #[.slice none 0 0, .slice none 0 0] 25)) := hX9
      have HPp9 : Aside (p9 = y1.heap.size) := hp9
      clear hX9 hp9 bX9 hX90 b1
      go_wp2_with fail
      rw [← HXX9.out, ← HPp9.out]
      refine (HKf.out X9).mono ?_
      rintro e y2 ⟨rfl, b2⟩
      obtain ⟨p8, hp8⟩ : ∃ p, p = y2.heap.size := ⟨_, rfl⟩
      obtain ⟨X8, hX8⟩ : ∃ X, X = y2.alloc (.cells #[.slice none 0 0, .slice none 0 0] 25) := ⟨_, rfl⟩
      have bX8 : Below y2.heap.size y2 X8 := by rw [hX8]; exact (Below.refl _ _).alloc (Nat.le_refl _) _
      have d28 := dbelow2 b2 bX8
      have hX80 : X8.heap[p8]? = some (.cells #[.slice none 0 0, .slice none 0 0] 25 (0, 0)) := by rw [hX8, hp8]; exact heap_alloc_new _ _
      have HBX8 : Hid (∀ V, Below X8.heap.size X8 V → V.heap[p8]? = some (.cells #[.slice none 0 0, .slice none 0 0] 25 (0, 0))) := fun V hV => (hV.block p8 (Array.getElem?_eq_some_iff.1 hX80).1).trans hX80
      have HXX8 : Hid (X8 = y2.alloc (.cells #[.slice none 0 0, .slice none 0 0] 25)) := hX8
      have HPp8 : Aside (p8 = y2.heap.size) := hp8
      clear hX8 hp8 bX8 hX80 b2
      go_wp2_with fail
      rw [← HXX8.out, ← HPp8.out]
      refine (wbegun_any X8).mono ?_
      rintro e y3 ⟨rfl, b3⟩
      have blk := HBX9.out y3 (dbelow2 d28 b3)
      have blk2 := HBX8.out y3 b3
      have g0 : y3.cell? ⟨p9, 0, none⟩ = some (.slice none 0 0) := by rw [cell_of_row _ _ _ _ _ _ blk]; rfl
      have g1 : y3.cell? ⟨p9, 1, none⟩ = some (.slice none 0 0) := by rw [cell_of_row _ _ _ _ _ _ blk]; rfl
      have g2 : y3.cell? ⟨p8, 0, none⟩ = some (.slice none 0 0) := by rw [cell_of_row _ _ _ _ _ _ blk2]; rfl
      have g3 : y3.cell? ⟨p8, 1, none⟩ = some (.slice none 0 0) := by rw [cell_of_row _ _ _ _ _ _ blk2]; rfl
      have KS : Hid (Calls Try.prog 10 #[.agg #[.slice none 0 0, .slice none 0 0], .agg #[.slice none 0 0, .slice none 0 0]] y3 fun e w' => e = .returned (.bool true) ∧ Below y3.heap.size y3 w') := srepos_yes none none 0 0 0 [] none none 0 0 0 [] y3 ⟨rfl, Or.inl rfl⟩ ⟨rfl, Or.inl rfl⟩ (by omega) ⟨rfl, Or.inl rfl⟩ ⟨rfl, Or.inl rfl⟩ (by omega)
      have d3 := dbelow2 d9 (dbelow2 d28 b3)
      clear blk blk2 b3
      go_wp2_with fail
      refine KS.out.mono ?_
      rintro e y4 ⟨rfl, b4⟩
      have bZ := dbelow2 d3 b4
      clear b4 g0 g1 g2 g3 KS
      go_wp2
      go_ret
      exact ⟨rfl, bZ⟩
    · have HKr : Hid (∀ V, Calls Try.prog 8 #[.string b] V fun e w' => ∃ x1 x2 x3 x4, e = .returned (.tuple #[.agg #[.slice x1 nR x2, .slice x3 mR x4], .int .i64 0]) ∧ RepoV w' x1 nR x2 CR x3 mR x4 HR ∧ Below V.heap.size V w') := HKsome.out (by omega) CR HR nR mR hRs hnR hmR
      have HKf : Hid (∀ V, Calls Try.prog 11 #[.string b] V fun e w' => ∃ x1 x2 x3 x4, e = .returned (.tuple #[.agg #[.slice x1 nR x2, .slice x3 mR x4], .bool true]) ∧ RepoV w' x1 nR x2 CR x3 mR x4 HR ∧ Below V.heap.size V w') := HFsome.out CR HR nR mR hRs hnR hmR
      clear hL4 hRs hnR hmR
      go_wp2_with fail
      refine (HKr.out w3).mono ?_
      rintro e y1 ⟨x1, x2, x3, x4, rfl, V1, b1⟩
      have d1 := dbelow2 c3 b1
      obtain ⟨p9, hp9⟩ : ∃ p, p = y1.heap.size := ⟨_, rfl⟩
      obtain ⟨X9, hX9⟩ : ∃ X, X = y1.alloc (.cells #[.slice x1 nR x2, .slice x3 mR x4] 25) := ⟨_, rfl⟩
      have bX9 : Below y1.heap.size y1 X9 := by rw [hX9]; exact (Below.refl _ _).alloc (Nat.le_refl _) _
      have d9 := dbelow2 d1 bX9
      have hX90 : X9.heap[p9]? = some (.cells #[.slice x1 nR x2, .slice x3 mR x4] 25 (0, 0)) := by rw [hX9, hp9]; exact heap_alloc_new _ _
      have HBX9 : Hid (∀ V, Below X9.heap.size X9 V → V.heap[p9]? = some (.cells #[.slice x1 nR x2, .slice x3 mR x4] 25 (0, 0))) := fun V hV => (hV.block p9 (Array.getElem?_eq_some_iff.1 hX90).1).trans hX90
      have HXX9 : Hid (X9 = y1.alloc (.cells #[.slice x1 nR x2, .slice x3 mR x4] 25)) := hX9
      have HPp9 : Aside (p9 = y1.heap.size) := hp9
      have HV9 : Hid (RepoV X9 x1 nR x2 CR x3 mR x4 HR) := V1.later bX9
      clear hX9 hp9 bX9 hX90 b1 V1
      go_wp2_with fail
      rw [← HXX9.out, ← HPp9.out]
      refine (HKf.out X9).mono ?_
      rintro e y2 ⟨z1, z2, z3, z4, rfl, V2, b2⟩
      obtain ⟨p8, hp8⟩ : ∃ p, p = y2.heap.size := ⟨_, rfl⟩
      obtain ⟨X8, hX8⟩ : ∃ X, X = y2.alloc (.cells #[.slice z1 nR z2, .slice z3 mR z4] 25) := ⟨_, rfl⟩
      have bX8 : Below y2.heap.size y2 X8 := by rw [hX8]; exact (Below.refl _ _).alloc (Nat.le_refl _) _
      have d28 := dbelow2 b2 bX8
      have hX80 : X8.heap[p8]? = some (.cells #[.slice z1 nR z2, .slice z3 mR z4] 25 (0, 0)) := by rw [hX8, hp8]; exact heap_alloc_new _ _
      have HBX8 : Hid (∀ V, Below X8.heap.size X8 V → V.heap[p8]? = some (.cells #[.slice z1 nR z2, .slice z3 mR z4] 25 (0, 0))) := fun V hV => (hV.block p8 (Array.getElem?_eq_some_iff.1 hX80).1).trans hX80
      have HXX8 : Hid (X8 = y2.alloc (.cells #[.slice z1 nR z2, .slice z3 mR z4] 25)) := hX8
      have HPp8 : Aside (p8 = y2.heap.size) := hp8
      have HV8 : Hid (RepoV X8 z1 nR z2 CR z3 mR z4 HR) := V2.later bX8
      clear hX8 hp8 bX8 hX80 b2 V2
      go_wp2_with fail
      rw [← HXX8.out, ← HPp8.out]
      refine (wbegun_any X8).mono ?_
      rintro e y3 ⟨rfl, b3⟩
      have blk := HBX9.out y3 (dbelow2 d28 b3)
      have blk2 := HBX8.out y3 b3
      have g0 : y3.cell? ⟨p9, 0, none⟩ = some (.slice x1 nR x2) := by rw [cell_of_row _ _ _ _ _ _ blk]; rfl
      have g1 : y3.cell? ⟨p9, 1, none⟩ = some (.slice x3 mR x4) := by rw [cell_of_row _ _ _ _ _ _ blk]; rfl
      have g2 : y3.cell? ⟨p8, 0, none⟩ = some (.slice z1 nR z2) := by rw [cell_of_row _ _ _ _ _ _ blk2]; rfl
      have g3 : y3.cell? ⟨p8, 1, none⟩ = some (.slice z3 mR z4) := by rw [cell_of_row _ _ _ _ _ _ blk2]; rfl
      have u9 := HV9.out.later (dbelow2 d28 b3)
      have u8 := HV8.out.later b3
      have KS : Hid (Calls Try.prog 10 #[.agg #[.slice x1 nR x2, .slice x3 mR x4], .agg #[.slice z1 nR z2, .slice z3 mR z4]] y3 fun e w' => e = .returned (.bool true) ∧ Below y3.heap.size y3 w') := srepos_yes x1 z1 nR x2 z2 CR x3 z3 mR x4 z4 HR y3 u9.cm u8.cm u9.nm u9.hs u8.hs u9.hm
      have d3 := dbelow2 d9 (dbelow2 d28 b3)
      clear blk blk2 b3 u9 u8
      go_wp2_with fail
      refine KS.out.mono ?_
      rintro e y4 ⟨rfl, b4⟩
      have bZ := dbelow2 d3 b4
      clear b4 g0 g1 g2 g3 KS
      go_wp2
      go_ret
      exact ⟨rfl, bZ⟩
  · have hEb : (E == 0) = false := by simp [hE0]
    have hs := HSo.out hE0
    subst hs
    clear hE0
    by_cases hL4 : 4096 < L
    case pos =>
      have hLb : decide ((4096 : Int) < (L : Int)) = true := by simp; omega
      have HKr := HKbig.out hL4
      have HKr : Hid (∀ V, Calls Try.prog 8 #[.string b] V fun e w' => e = .returned (.tuple #[.agg #[.slice none 0 0, .slice none 0 0], .int .i64 2]) ∧ Below V.heap.size V w') := HKr
      clear hL4
      go_wp2_with fail
      refine (HKr.out w2).mono ?_
      rintro e y1 ⟨rfl, b1⟩
      have d1 := dbelow2 c2 b1
      obtain ⟨p9, hp9⟩ : ∃ p, p = y1.heap.size := ⟨_, rfl⟩
      obtain ⟨X9, hX9⟩ : ∃ X, X = y1.alloc (.cells #[.slice none 0 0, .slice none 0 0] 25) := ⟨_, rfl⟩
      have bX9 : Below y1.heap.size y1 X9 := by rw [hX9]; exact (Below.refl _ _).alloc (Nat.le_refl _) _
      have d9 := dbelow2 d1 bX9
      have hX90 : X9.heap[p9]? = some (.cells #[.slice none 0 0, .slice none 0 0] 25 (0, 0)) := by rw [hX9, hp9]; exact heap_alloc_new _ _
      have HBX9 : Hid (∀ V, Below X9.heap.size X9 V → V.heap[p9]? = some (.cells #[.slice none 0 0, .slice none 0 0] 25 (0, 0))) := fun V hV => (hV.block p9 (Array.getElem?_eq_some_iff.1 hX90).1).trans hX90
      have HXX9 : Hid (X9 = y1.alloc (.cells #[.slice none 0 0, .slice none 0 0] 25)) := hX9
      have HPp9 : Aside (p9 = y1.heap.size) := hp9
      clear hX9 hp9 bX9 hX90 b1
      go_wp2_with fail
      rw [← HXX9.out, ← HPp9.out]
      refine (wbegun_any X9).mono ?_
      rintro e y3 ⟨rfl, b3⟩
      have blk := HBX9.out y3 b3
      have g0 : y3.cell? ⟨p9, 0, none⟩ = some (.slice none 0 0) := by rw [cell_of_row _ _ _ _ _ _ blk]; rfl
      have g1 : y3.cell? ⟨p9, 1, none⟩ = some (.slice none 0 0) := by rw [cell_of_row _ _ _ _ _ _ blk]; rfl
      have KS : Hid (Calls Try.prog 10 #[.agg #[.slice none 0 0, .slice none 0 0], .agg #[.slice none 0 0, .slice none 0 0]] y3 fun e w' => e = .returned (.bool true) ∧ Below y3.heap.size y3 w') := srepos_yes none none 0 0 0 [] none none 0 0 0 [] y3 ⟨rfl, Or.inl rfl⟩ ⟨rfl, Or.inl rfl⟩ (by omega) ⟨rfl, Or.inl rfl⟩ ⟨rfl, Or.inl rfl⟩ (by omega)
      have d3 := dbelow2 d9 b3
      clear blk b3
      go_wp2_with fail
      refine KS.out.mono ?_
      rintro e y4 ⟨rfl, b4⟩
      have bZ := dbelow2 d3 b4
      clear b4 g0 g1 KS
      go_wp2
      go_ret
      exact ⟨rfl, bZ⟩
    have hLb : decide ((4096 : Int) < (L : Int)) = false := by simp; omega
    rcases HRd.out with HRn | ⟨CR, HR, nR, mR, hRs, hnR, hmR⟩
    · have HKr : Hid (∀ V, Calls Try.prog 8 #[.string b] V fun e w' => e = .returned (.tuple #[.agg #[.slice none 0 0, .slice none 0 0], .int .i64 1]) ∧ Below V.heap.size V w') := HKnone.out (by omega) HRn
      have HKf : Hid (∀ V, Calls Try.prog 11 #[.string b] V fun e w' => e = .returned (.tuple #[.agg #[.slice none 0 0, .slice none 0 0], .bool false]) ∧ Below V.heap.size V w') := HFnone.out HRn
      clear hL4 HRn
      go_wp2_with fail
      refine (HKr.out w2).mono ?_
      rintro e y1 ⟨rfl, b1⟩
      have d1 := dbelow2 c2 b1
      obtain ⟨p9, hp9⟩ : ∃ p, p = y1.heap.size := ⟨_, rfl⟩
      obtain ⟨X9, hX9⟩ : ∃ X, X = y1.alloc (.cells #[.slice none 0 0, .slice none 0 0] 25) := ⟨_, rfl⟩
      have bX9 : Below y1.heap.size y1 X9 := by rw [hX9]; exact (Below.refl _ _).alloc (Nat.le_refl _) _
      have d9 := dbelow2 d1 bX9
      have hX90 : X9.heap[p9]? = some (.cells #[.slice none 0 0, .slice none 0 0] 25 (0, 0)) := by rw [hX9, hp9]; exact heap_alloc_new _ _
      have HBX9 : Hid (∀ V, Below X9.heap.size X9 V → V.heap[p9]? = some (.cells #[.slice none 0 0, .slice none 0 0] 25 (0, 0))) := fun V hV => (hV.block p9 (Array.getElem?_eq_some_iff.1 hX90).1).trans hX90
      have HXX9 : Hid (X9 = y1.alloc (.cells #[.slice none 0 0, .slice none 0 0] 25)) := hX9
      have HPp9 : Aside (p9 = y1.heap.size) := hp9
      clear hX9 hp9 bX9 hX90 b1
      go_wp2_with fail
      rw [← HXX9.out, ← HPp9.out]
      refine (HKf.out X9).mono ?_
      rintro e y2 ⟨rfl, b2⟩
      obtain ⟨p8, hp8⟩ : ∃ p, p = y2.heap.size := ⟨_, rfl⟩
      obtain ⟨X8, hX8⟩ : ∃ X, X = y2.alloc (.cells #[.slice none 0 0, .slice none 0 0] 25) := ⟨_, rfl⟩
      have bX8 : Below y2.heap.size y2 X8 := by rw [hX8]; exact (Below.refl _ _).alloc (Nat.le_refl _) _
      have d28 := dbelow2 b2 bX8
      have hX80 : X8.heap[p8]? = some (.cells #[.slice none 0 0, .slice none 0 0] 25 (0, 0)) := by rw [hX8, hp8]; exact heap_alloc_new _ _
      have HBX8 : Hid (∀ V, Below X8.heap.size X8 V → V.heap[p8]? = some (.cells #[.slice none 0 0, .slice none 0 0] 25 (0, 0))) := fun V hV => (hV.block p8 (Array.getElem?_eq_some_iff.1 hX80).1).trans hX80
      have HXX8 : Hid (X8 = y2.alloc (.cells #[.slice none 0 0, .slice none 0 0] 25)) := hX8
      have HPp8 : Aside (p8 = y2.heap.size) := hp8
      clear hX8 hp8 bX8 hX80 b2
      go_wp2_with fail
      rw [← HXX8.out, ← HPp8.out]
      refine (wbegun_any X8).mono ?_
      rintro e y3 ⟨rfl, b3⟩
      have blk := HBX9.out y3 (dbelow2 d28 b3)
      have blk2 := HBX8.out y3 b3
      have g0 : y3.cell? ⟨p9, 0, none⟩ = some (.slice none 0 0) := by rw [cell_of_row _ _ _ _ _ _ blk]; rfl
      have g1 : y3.cell? ⟨p9, 1, none⟩ = some (.slice none 0 0) := by rw [cell_of_row _ _ _ _ _ _ blk]; rfl
      have g2 : y3.cell? ⟨p8, 0, none⟩ = some (.slice none 0 0) := by rw [cell_of_row _ _ _ _ _ _ blk2]; rfl
      have g3 : y3.cell? ⟨p8, 1, none⟩ = some (.slice none 0 0) := by rw [cell_of_row _ _ _ _ _ _ blk2]; rfl
      have KS : Hid (Calls Try.prog 10 #[.agg #[.slice none 0 0, .slice none 0 0], .agg #[.slice none 0 0, .slice none 0 0]] y3 fun e w' => e = .returned (.bool true) ∧ Below y3.heap.size y3 w') := srepos_yes none none 0 0 0 [] none none 0 0 0 [] y3 ⟨rfl, Or.inl rfl⟩ ⟨rfl, Or.inl rfl⟩ (by omega) ⟨rfl, Or.inl rfl⟩ ⟨rfl, Or.inl rfl⟩ (by omega)
      have d3 := dbelow2 d9 (dbelow2 d28 b3)
      clear blk blk2 b3
      go_wp2_with fail
      refine KS.out.mono ?_
      rintro e y4 ⟨rfl, b4⟩
      have bZ := dbelow2 d3 b4
      clear b4 g0 g1 g2 g3 KS
      go_wp2
      go_ret
      exact ⟨rfl, bZ⟩
    · have HKr : Hid (∀ V, Calls Try.prog 8 #[.string b] V fun e w' => ∃ x1 x2 x3 x4, e = .returned (.tuple #[.agg #[.slice x1 nR x2, .slice x3 mR x4], .int .i64 0]) ∧ RepoV w' x1 nR x2 CR x3 mR x4 HR ∧ Below V.heap.size V w') := HKsome.out (by omega) CR HR nR mR hRs hnR hmR
      have HKf : Hid (∀ V, Calls Try.prog 11 #[.string b] V fun e w' => ∃ x1 x2 x3 x4, e = .returned (.tuple #[.agg #[.slice x1 nR x2, .slice x3 mR x4], .bool true]) ∧ RepoV w' x1 nR x2 CR x3 mR x4 HR ∧ Below V.heap.size V w') := HFsome.out CR HR nR mR hRs hnR hmR
      clear hL4 hRs hnR hmR
      go_wp2_with fail
      refine (HKr.out w2).mono ?_
      rintro e y1 ⟨x1, x2, x3, x4, rfl, V1, b1⟩
      have d1 := dbelow2 c2 b1
      obtain ⟨p9, hp9⟩ : ∃ p, p = y1.heap.size := ⟨_, rfl⟩
      obtain ⟨X9, hX9⟩ : ∃ X, X = y1.alloc (.cells #[.slice x1 nR x2, .slice x3 mR x4] 25) := ⟨_, rfl⟩
      have bX9 : Below y1.heap.size y1 X9 := by rw [hX9]; exact (Below.refl _ _).alloc (Nat.le_refl _) _
      have d9 := dbelow2 d1 bX9
      have hX90 : X9.heap[p9]? = some (.cells #[.slice x1 nR x2, .slice x3 mR x4] 25 (0, 0)) := by rw [hX9, hp9]; exact heap_alloc_new _ _
      have HBX9 : Hid (∀ V, Below X9.heap.size X9 V → V.heap[p9]? = some (.cells #[.slice x1 nR x2, .slice x3 mR x4] 25 (0, 0))) := fun V hV => (hV.block p9 (Array.getElem?_eq_some_iff.1 hX90).1).trans hX90
      have HXX9 : Hid (X9 = y1.alloc (.cells #[.slice x1 nR x2, .slice x3 mR x4] 25)) := hX9
      have HPp9 : Aside (p9 = y1.heap.size) := hp9
      have HV9 : Hid (RepoV X9 x1 nR x2 CR x3 mR x4 HR) := V1.later bX9
      clear hX9 hp9 bX9 hX90 b1 V1
      go_wp2_with fail
      rw [← HXX9.out, ← HPp9.out]
      refine (HKf.out X9).mono ?_
      rintro e y2 ⟨z1, z2, z3, z4, rfl, V2, b2⟩
      obtain ⟨p8, hp8⟩ : ∃ p, p = y2.heap.size := ⟨_, rfl⟩
      obtain ⟨X8, hX8⟩ : ∃ X, X = y2.alloc (.cells #[.slice z1 nR z2, .slice z3 mR z4] 25) := ⟨_, rfl⟩
      have bX8 : Below y2.heap.size y2 X8 := by rw [hX8]; exact (Below.refl _ _).alloc (Nat.le_refl _) _
      have d28 := dbelow2 b2 bX8
      have hX80 : X8.heap[p8]? = some (.cells #[.slice z1 nR z2, .slice z3 mR z4] 25 (0, 0)) := by rw [hX8, hp8]; exact heap_alloc_new _ _
      have HBX8 : Hid (∀ V, Below X8.heap.size X8 V → V.heap[p8]? = some (.cells #[.slice z1 nR z2, .slice z3 mR z4] 25 (0, 0))) := fun V hV => (hV.block p8 (Array.getElem?_eq_some_iff.1 hX80).1).trans hX80
      have HXX8 : Hid (X8 = y2.alloc (.cells #[.slice z1 nR z2, .slice z3 mR z4] 25)) := hX8
      have HPp8 : Aside (p8 = y2.heap.size) := hp8
      have HV8 : Hid (RepoV X8 z1 nR z2 CR z3 mR z4 HR) := V2.later bX8
      clear hX8 hp8 bX8 hX80 b2 V2
      go_wp2_with fail
      rw [← HXX8.out, ← HPp8.out]
      refine (wbegun_any X8).mono ?_
      rintro e y3 ⟨rfl, b3⟩
      have blk := HBX9.out y3 (dbelow2 d28 b3)
      have blk2 := HBX8.out y3 b3
      have g0 : y3.cell? ⟨p9, 0, none⟩ = some (.slice x1 nR x2) := by rw [cell_of_row _ _ _ _ _ _ blk]; rfl
      have g1 : y3.cell? ⟨p9, 1, none⟩ = some (.slice x3 mR x4) := by rw [cell_of_row _ _ _ _ _ _ blk]; rfl
      have g2 : y3.cell? ⟨p8, 0, none⟩ = some (.slice z1 nR z2) := by rw [cell_of_row _ _ _ _ _ _ blk2]; rfl
      have g3 : y3.cell? ⟨p8, 1, none⟩ = some (.slice z3 mR z4) := by rw [cell_of_row _ _ _ _ _ _ blk2]; rfl
      have u9 := HV9.out.later (dbelow2 d28 b3)
      have u8 := HV8.out.later b3
      have KS : Hid (Calls Try.prog 10 #[.agg #[.slice x1 nR x2, .slice x3 mR x4], .agg #[.slice z1 nR z2, .slice z3 mR z4]] y3 fun e w' => e = .returned (.bool true) ∧ Below y3.heap.size y3 w') := srepos_yes x1 z1 nR x2 z2 CR x3 z3 mR x4 z4 HR y3 u9.cm u8.cm u9.nm u9.hs u8.hs u9.hm
      have d3 := dbelow2 d9 (dbelow2 d28 b3)
      clear blk blk2 b3 u9 u8
      go_wp2_with fail
      refine KS.out.mono ?_
      rintro e y4 ⟨rfl, b4⟩
      have bZ := dbelow2 d3 b4
      clear b4 g0 g1 g2 g3 KS
      go_wp2
      go_ret
      exact ⟨rfl, bZ⟩
set_option maxRecDepth 100000 in
theorem wireWrites_lifted (os : Os) (started : os.Started) (H : Type) (enc : TypeId × Value → H) :
    ReturnsInHanded {} Try.checked os 3 .any (Rows.wireWritesSpec.pre6 enc Try.prog Try.f3 Rows.wireWritesRow.domain false) (Rows.wireWritesSpec.post enc Try.prog Try.f3 false true false false) := by
  refine returnsInHanded_of_change (C := Try.checked) ownTry started (by kernel_rfl) Try.func3
    (ChangeSpec.witness6 (enc := enc) (C := Try.checked) false ⟨#[], #[.agg #[.slice none 0 0, .slice none 0 0], .string ⟨#[]⟩], []⟩ 8 (by kernel_rfl) (by kernel_rfl) (by kernel_rfl) (by kernel_rfl)) ?_
  intro W base args ds gs before hval0 hW hcnd _
  have hval : ∀ (j : Nat) t v, Try.f3.params[j]? = some t → args[j]? = some v → Value.okWide Try.prog W .any base t v := hval0
  have hW' := hW
  obtain ⟨p, q, hA0, hV, rfl, hfz, hnd⟩ := hW
  have hA : DataW.TrodAll enc Try.prog W 0 (fun _ => true) true Try.f3.params.toList args.toList ds p := hA0
  rw [Try.params3] at hA hval
  obtain ⟨v0, vs0, d0, ds0, p0, q0, hargs, rfl, rfl, h0, r0⟩ := trodAll_cons hA
  obtain ⟨v1, vs1, d1, ds1, p1, q1, rfl, rfl, rfl, h1, r1⟩ := trodAll_cons r0
  obtain ⟨rfl, rfl, rfl⟩ := trodAll_nil r1
  obtain rfl : args = #[v0, v1] := by cases args; simp_all
  obtain ⟨rfl, rfl⟩ := trodVars_none hV
  have k0 := h0
  have lt0 : ∀ x ∈ p0, x.block < W.heap.size := by obtain ⟨m, hm⟩ := k0; exact DataW.trod_lt m _ _ _ hm
  obtain ⟨a0, n0, cap0, b0, m0, bap0, C0, L0, rfl, hv0, hcp0, hcm0⟩ := open_repoV (hval 0 25 v0 rfl rfl) h0
  obtain ⟨s1, rfl, rfl, rfl, hs1⟩ := Go.ChangeMaps.open_string Try.underlying9 (hval 1 9 v1 rfl rfl) h1
  clear hA0 hval0
  refine (wireWrites_walk a0 n0 cap0 C0 b0 m0 bap0 L0 s1 W hv0 (by have := hs1; unfold maxLen at this; omega)).mono fun e W' ⟨he, bel⟩ => ?_
  subst he
  exact ⟨_, rfl, _, _, _, [], _, [], hW', trodAll_mk1 (shut_bool Try.underlying4 _), (trodAll_cons_mk (Below.trod laidTry (by kernel_rfl) (of_decide_eq_true (by kernel_rfl)) k0 bel lt0) (trodAll_cons_mk (Go.ChangeMaps.shut_string Try.underlying9 hs1) trodAll_mk0)), rfl, bel.frame _, fun h => by cases h⟩

theorem wireWrites_holds : Rows.WireWritesSaid :=
  OpenClaim.holds_of_wide 3 Try.f3 rfl rfl rfl rfl rfl rfl rfl ⟨rfl, rfl, rfl, rfl, rfl⟩ rfl rfl rfl rfl rfl (by kernel_rfl) Try.func3 (by kernel_rfl)
    (of_decide_eq_true (by kernel_rfl)) (by unfold Func.isWrapper; first | (rw [if_pos (by decide +kernel)]; kernel_rfl) | (rw [if_neg (by decide +kernel)]; exact ⟨rfl, rfl⟩))
    (fun os started H enc _ => wireWrites_lifted os started H enc)
#print axioms wireWrites_holds
end Go.Proofs.Ytcgpgflnihjpiag
