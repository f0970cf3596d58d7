/- For every repo, every act and every slice of rows, the law RestRepos returns true and leaves its arguments as they were: what is answered is the caller's own, and writing over it changes nothing else. No condition. -/
import Derived.Test.YtcgpgflnihjpiagGreatBRestRepos02
import Derived.Test.YtcgpgflnihjpiagGreatBRestRepos16
import Derived.Test.YtcgpgflnihjpiagGreatBRestRepos10
import Derived.Test.YtcgpgflnihjpiagGreatBRestRepos14
import Derived.Test.YtcgpgflnihjpiagGreatBRestRepos15
namespace Go.Proofs.YtcgpgflnihjpiagGreat
open Go.RowKit
structure Pk (ok : TypeId → Value → Prop) (B : Nat) (w w' : World) : Prop where
  below : Below B w w'
  size : w'.heap.size = w.heap.size
  blk : ∀ (g : Nat) (cur : Array Value) (t : TypeId), w.heap[g]? = some (.cells cur t (0, 0)) → ∃ cur' : Array Value, w'.heap[g]? = some (.cells cur' t (0, 0)) ∧ cur'.size = cur.size ∧ ∀ i : Nat, cur'[i]? = cur[i]? ∨ ∃ v, cur'[i]? = some v ∧ ok t v
theorem Pk.refl (ok : TypeId → Value → Prop) (B : Nat) (w : World) : Pk ok B w w := ⟨Below.refl _ _, rfl, fun _ cur _ h => ⟨cur, h, rfl, fun _ => .inl rfl⟩⟩
theorem Pk.trans {ok : TypeId → Value → Prop} {B : Nat} {a b c : World} (h : Pk ok B a b) (k : Pk ok B b c) : Pk ok B a c := by
  refine ⟨h.below.trans k.below, k.size.trans h.size, fun g cur t hg => ?_⟩
  obtain ⟨c1, g1, s1, i1⟩ := h.blk g cur t hg
  obtain ⟨c2, g2, s2, i2⟩ := k.blk g c1 t g1
  refine ⟨c2, g2, s2.trans s1, fun i => ?_⟩
  rcases i2 i with e | e
  · rw [e]; exact i1 i
  · exact .inr e
theorem Pk.mono {ok ok' : TypeId → Value → Prop} {B : Nat} {a b : World} (h : Pk ok B a b) (ho : ∀ t v, ok t v → ok' t v) : Pk ok' B a b :=
  ⟨h.below, h.size, fun g cur t hg => by
    obtain ⟨c1, g1, s1, i1⟩ := h.blk g cur t hg
    exact ⟨c1, g1, s1, fun i => (i1 i).imp id fun ⟨v, e, o⟩ => ⟨v, e, ho t v o⟩⟩⟩
theorem Pk.set {ok : TypeId → Value → Prop} {B : Nat} {a b : World} (h : Pk ok B a b) {g : Nat} {cur : Array Value} {t : TypeId} (hg : b.heap[g]? = some (.cells cur t (0, 0))) (hB : B ≤ g) (i : Nat) (v : Value) (ho : ok t v) : Pk ok B a (b.setCell ⟨g, i, none⟩ v) := by
  refine h.trans ⟨(Below.refl _ _).setCell (p := ⟨g, i, none⟩) hB _, by simp [World.setCell], fun k c1 t1 hk => ?_⟩
  by_cases e : k = g
  · subst e
    rw [hg] at hk
    obtain ⟨rfl, rfl⟩ : cur = c1 ∧ t = t1 := by simpa using hk
    refine ⟨_, heap_setCell_same _ _ i _ _ v hg, by simp, fun j => ?_⟩
    rw [Array.getElem?_setIfInBounds]
    by_cases hj : i = j
    · subst hj
      by_cases hlt : i < cur.size
      · exact .inr ⟨v, by simp [hlt], ho⟩
      · exact .inl (by simp [hlt])
    · exact .inl (by simp [hj])
  · exact ⟨c1, (heap_setCell_other b ⟨g, i, none⟩ k v e).trans hk, rfl, fun _ => .inl rfl⟩
theorem Pk.same {ok : TypeId → Value → Prop} {B : Nat} {a b : World} (h : Pk ok B a b) {g : Nat} {cur : Array Value} {t : TypeId} (hg : a.heap[g]? = some (.cells cur t (0, 0))) (hn : ∀ v, ¬ ok t v) : b.heap[g]? = some (.cells cur t (0, 0)) := by
  obtain ⟨c1, g1, _, i1⟩ := h.blk g cur t hg
  have e : c1 = cur := Array.ext_getElem? fun i => by
    rcases i1 i with e | ⟨v, _, o⟩
    · exact e
    · exact absurd o (hn v)
  rw [g1, e]
def Sh (w : World) (B : Nat) (e : TypeId) (size : Nat) (v : Value) : Prop := ∃ a n cap, v = .slice a n cap ∧ n ≤ 9223372036854775807 ∧ (n = 0 ∨ ∃ g cur, a = some ⟨g, 0, none⟩ ∧ B ≤ g ∧ w.heap[g]? = some (.cells cur e (0, 0)) ∧ n * size ≤ cur.size)
theorem Sh.nil (w : World) (B : Nat) (e : TypeId) (size : Nat) : Sh w B e size (.slice none 0 0) := ⟨_, _, _, rfl, by omega, .inl rfl⟩
theorem Sh.pk {ok : TypeId → Value → Prop} {B : Nat} {w w' : World} {e : TypeId} {size : Nat} {v : Value} (h : Sh w B e size v) (k : Pk ok B w w') : Sh w' B e size v := by
  obtain ⟨a, n, cap, rfl, hm, h⟩ := h
  refine ⟨a, n, cap, rfl, hm, ?_⟩
  rcases h with h | ⟨g, cur, ha, hB, hg, hs⟩
  · exact .inl h
  · obtain ⟨c1, g1, s1, _⟩ := k.blk g cur e hg
    exact .inr ⟨g, c1, ha, hB, g1, by omega⟩
theorem Sh.of {w : World} {B n : Nat} {e : TypeId} {size : Nat} {v : Value} {xs : List Value} (h : w.ownsRow B e size v n xs) : Sh w B e size v := by
  rcases h.2 with ⟨rfl, _⟩ | ⟨g, cap, cur, rfl, hb, hh, hc, hm, hz, _⟩
  · exact Sh.nil _ _ _ _
  · refine ⟨_, _, _, rfl, by unfold maxLen at hm; omega, .inr ⟨g, cur, rfl, hb, hh, ?_⟩⟩
    rw [hz]; exact Nat.mul_le_mul_right _ hc
def Nsh (P : Value → Prop) (w : World) (B : Nat) (e : TypeId) (v : Value) : Prop := ∃ a n cap, v = .slice a n cap ∧ n ≤ 9223372036854775807 ∧ (n = 0 ∨ ∃ g cur, a = some ⟨g, 0, none⟩ ∧ B ≤ g ∧ w.heap[g]? = some (.cells cur e (0, 0)) ∧ ∀ i, i < n → ∃ u, cur[i]? = some u ∧ P u)
theorem Nsh.of {P : Value → Prop} {w : World} {B n : Nat} {e : TypeId} {v : Value} {xs : List Value} (h : w.ownsRow B e 1 v n xs) (hp : ∀ (i : Nat) (u : Value), xs[i]? = some u → P u) : Nsh P w B e v := by
  have hl := h.1
  rcases h.2 with ⟨rfl, _⟩ | ⟨g, cap, cur, rfl, hb, hh, hc, hm, hz, hx⟩
  · exact ⟨_, _, _, rfl, by omega, .inl rfl⟩
  · refine ⟨_, _, _, rfl, by unfold maxLen at hm; omega, .inr ⟨g, cur, rfl, hb, hh, fun i hi => ?_⟩⟩
    have hi2 : i < xs.length := by omega
    refine ⟨xs[i], ?_, hp i _ (List.getElem?_eq_getElem hi2)⟩
    have e1 : xs[i]? = some xs[i] := List.getElem?_eq_getElem hi2
    rw [← e1, ← hx, List.getElem?_take, if_pos (by omega)]
    simp
def Lsh (w : World) (B : Nat) (v : Value) : Prop := Nsh (Sh w B 56 2) w B 47 v
def Tsh (w : World) (B : Nat) (v : Value) : Prop := Nsh (Lsh w B) w B 59 v
theorem Tsh.of {w : World} {B : Nat} {v : Value} {T : List (List (List (Int × Int)))} (h : OwnT w B v T) : Tsh w B v := by
  obtain ⟨vals, h1, h2⟩ := h
  refine Nsh.of h1 fun i u hu => ?_
  obtain ⟨vals', k1, k2⟩ := h2 i u hu
  exact Nsh.of k1 fun j u' hu' => Sh.of (k2 j u' hu')
def Csh (w : World) (B : Nat) (v : Value) : Prop := ∃ a n cap, v = .slice a n cap ∧ n ≤ 9223372036854775807 ∧ (n = 0 ∨ ∃ g cur, a = some ⟨g, 0, none⟩ ∧ B ≤ g ∧ w.heap[g]? = some (.cells cur 54 (0, 0)) ∧ ∀ i, i < n → ∃ u1 u2, cur[i * 2]? = some u1 ∧ cur[i * 2 + 1]? = some u2 ∧ Sh w B 56 2 u1 ∧ Sh w B 3 1 u2)
def okG (t : TypeId) (v : Value) : Prop := t = 56 ∨ t = 3 ∨ t = 58 ∨ (t = 54 ∧ v = .slice none 0 0)
theorem Csh.pk {B : Nat} {w w' : World} {v : Value} (h : Csh w B v) (k : Pk okG B w w') : Csh w' B v := by
  obtain ⟨a, n, cap, rfl, hm, h⟩ := h
  refine ⟨a, n, cap, rfl, hm, ?_⟩
  rcases h with h | ⟨g, cur, ha, hB, hg, hs⟩
  · exact .inl h
  · obtain ⟨c1, g1, s1, i1⟩ := k.blk g cur _ hg
    have nilOf : ∀ {v : Value}, okG 54 v → v = .slice none 0 0 := by
      intro v ho
      rcases ho with e | e | e | ⟨_, e⟩
      · exact absurd e (by decide)
      · exact absurd e (by decide)
      · exact absurd e (by decide)
      · exact e
    refine .inr ⟨g, c1, ha, hB, g1, fun i hi => ?_⟩
    obtain ⟨u1, u2, e1, e2, s1, s2⟩ := hs i hi
    obtain ⟨x1, f1, t1⟩ : ∃ x, c1[i * 2]? = some x ∧ Sh w' B 56 2 x := by
      rcases i1 (i * 2) with e | ⟨v, e, o⟩
      · exact ⟨u1, e.trans e1, s1.pk k⟩
      · exact ⟨v, e, by rw [nilOf o]; exact Sh.nil _ _ _ _⟩
    obtain ⟨x2, f2, t2⟩ : ∃ x, c1[i * 2 + 1]? = some x ∧ Sh w' B 3 1 x := by
      rcases i1 (i * 2 + 1) with e | ⟨v, e, o⟩
      · exact ⟨u2, e.trans e2, s2.pk k⟩
      · exact ⟨v, e, by rw [nilOf o]; exact Sh.nil _ _ _ _⟩
    exact ⟨x1, x2, f1, f2, t1, t2⟩
theorem Csh.of {w : World} {B : Nat} {v : Value} {C : List M.Com} (h : OwnK w B v C) : Csh w B v := by
  obtain ⟨vals, hl, h0, hv⟩ := h
  have h1 := h0.1
  rcases h0.2 with ⟨rfl, hn⟩ | ⟨g, cap, cur, rfl, hb, hh, hc, hm, hz, hx⟩
  · exact ⟨_, _, _, rfl, by omega, .inl rfl⟩
  · refine ⟨_, _, _, rfl, by unfold maxLen at hm; omega, .inr ⟨g, cur, rfl, hb, hh, fun i hi => ?_⟩⟩
    have at_ : ∀ j, j < C.length * 2 → cur[j]? = (encP vals)[j]? := fun j hj => by
      rw [← hx, List.getElem?_take, if_pos hj]; simp
    obtain ⟨o1, o2, _⟩ := hv i hi
    exact ⟨_, _, (at_ (i * 2) (by omega)).trans (encP_fst vals i (by omega)), (at_ (i * 2 + 1) (by omega)).trans (encP_snd vals i (by omega)), Sh.of o1, Sh.of o2⟩
theorem Sh.len {w : World} {B : Nat} {e : TypeId} {size : Nat} {a : Option Addr} {n cap : Nat} (h : Sh w B e size (.slice a n cap)) : n ≤ 9223372036854775807 := by
  obtain ⟨a', n', cap', he, hm, _⟩ := h
  obtain ⟨rfl, rfl, rfl⟩ : a = a' ∧ n = n' ∧ cap = cap' := by simpa using he
  exact hm
theorem Csh.len {w : World} {B : Nat} {a : Option Addr} {n cap : Nat} (h : Csh w B (.slice a n cap)) : n ≤ 9223372036854775807 := by
  obtain ⟨a', n', cap', he, hm, _⟩ := h
  obtain ⟨rfl, rfl, rfl⟩ : a = a' ∧ n = n' ∧ cap = cap' := by simpa using he
  exact hm
theorem Nsh.len {P : Value → Prop} {w : World} {B : Nat} {e : TypeId} {a : Option Addr} {n cap : Nat} (h : Nsh P w B e (.slice a n cap)) : n ≤ 9223372036854775807 := by
  obtain ⟨a', n', cap', he, hm, _⟩ := h
  obtain ⟨rfl, rfl, rfl⟩ : a = a' ∧ n = n' ∧ cap = cap' := by simpa using he
  exact hm
theorem Sh.two {w : World} {B : Nat} {e : TypeId} {a : Option Addr} {n cap : Nat} (h : Sh w B e 2 (.slice a n cap)) (i : Nat) (hi : i < n) : ∃ g off cur u1 u2, a = some ⟨g, off, none⟩ ∧ B ≤ g ∧ w.heap[g]? = some (.cells cur e (0, 0)) ∧ w.cell? ⟨g, off + i * 2, none⟩ = some u1 ∧ w.cell? ⟨g, off + i * 2 + 1, none⟩ = some u2 ∧ w.frozen? ⟨g, off + i * 2, none⟩ = false ∧ w.frozen? ⟨g, off + i * 2 + 1, none⟩ = false := by
  obtain ⟨a', n', cap', he, hm, h⟩ := h
  obtain ⟨rfl, rfl, rfl⟩ : a = a' ∧ n = n' ∧ cap = cap' := by simpa using he
  rcases h with h | ⟨g, cur, ha, hB, hg, hs⟩
  · omega
  · exact ⟨g, 0, cur, cur[i * 2]'(by omega), cur[i * 2 + 1]'(by omega), ha, hB, hg, by rw [cell_of_row _ _ _ _ _ _ hg, Nat.zero_add, Array.getElem?_eq_getElem (by omega)], by rw [cell_of_row _ _ _ _ _ _ hg, Nat.zero_add, Array.getElem?_eq_getElem (by omega)], frozen_of_row _ _ _ _ _ hg, frozen_of_row _ _ _ _ _ hg⟩
theorem Sh.one {w : World} {B : Nat} {e : TypeId} {a : Option Addr} {n cap : Nat} (h : Sh w B e 1 (.slice a n cap)) (i : Nat) (hi : i < n) : ∃ g off cur u, a = some ⟨g, off, none⟩ ∧ B ≤ g ∧ w.heap[g]? = some (.cells cur e (0, 0)) ∧ w.cell? ⟨g, off + i, none⟩ = some u ∧ w.frozen? ⟨g, off + i, none⟩ = false := by
  obtain ⟨a', n', cap', he, hm, h⟩ := h
  obtain ⟨rfl, rfl, rfl⟩ : a = a' ∧ n = n' ∧ cap = cap' := by simpa using he
  rcases h with h | ⟨g, cur, ha, hB, hg, hs⟩
  · omega
  · exact ⟨g, 0, cur, cur[i]'(by omega), ha, hB, hg, by rw [cell_of_row _ _ _ _ _ _ hg, Nat.zero_add, Array.getElem?_eq_getElem (by omega)], frozen_of_row _ _ _ _ _ hg⟩
theorem Sh.slice {w : World} {B : Nat} {e : TypeId} {size : Nat} {u : Value} (h : Sh w B e size u) : ∃ a n cap, u = .slice a n cap := by
  obtain ⟨a, n, cap, e, _⟩ := h
  exact ⟨a, n, cap, e⟩
theorem Nsh.slice {P : Value → Prop} {w : World} {B : Nat} {e : TypeId} {u : Value} (h : Nsh P w B e u) : ∃ a n cap, u = .slice a n cap := by
  obtain ⟨a, n, cap, e, _⟩ := h
  exact ⟨a, n, cap, e⟩
theorem Csh.slice {w : World} {B : Nat} {u : Value} (h : Csh w B u) : ∃ a n cap, u = .slice a n cap := by
  obtain ⟨a, n, cap, e, _⟩ := h
  exact ⟨a, n, cap, e⟩
theorem Csh.at {w : World} {B : Nat} {a : Option Addr} {n cap : Nat} (h : Csh w B (.slice a n cap)) (i : Nat) (hi : i < n) : ∃ g off cur a1 n1 c1 a2 n2 c2, a = some ⟨g, off, none⟩ ∧ B ≤ g ∧ w.heap[g]? = some (.cells cur 54 (0, 0)) ∧ w.cell? ⟨g, off + i * 2, none⟩ = some (.slice a1 n1 c1) ∧ w.cell? ⟨g, off + i * 2 + 1, none⟩ = some (.slice a2 n2 c2) ∧ w.frozen? ⟨g, off + i * 2, none⟩ = false ∧ w.frozen? ⟨g, off + i * 2 + 1, none⟩ = false ∧ Sh w B 56 2 (.slice a1 n1 c1) ∧ Sh w B 3 1 (.slice a2 n2 c2) := by
  obtain ⟨a', n', cap', he, hm, h⟩ := h
  obtain ⟨rfl, rfl, rfl⟩ : a = a' ∧ n = n' ∧ cap = cap' := by simpa using he
  rcases h with h | ⟨g, cur, ha, hB, hg, hs⟩
  · omega
  · obtain ⟨u1, u2, e1, e2, s1, s2⟩ := hs i hi
    obtain ⟨a1, n1, c1, rfl⟩ := s1.slice
    obtain ⟨a2, n2, c2, rfl⟩ := s2.slice
    exact ⟨g, 0, cur, a1, n1, c1, a2, n2, c2, ha, hB, hg, by rw [cell_of_row _ _ _ _ _ _ hg, Nat.zero_add, e1], by rw [cell_of_row _ _ _ _ _ _ hg, Nat.zero_add, e2], frozen_of_row _ _ _ _ _ hg, frozen_of_row _ _ _ _ _ hg, s1, s2⟩
theorem Nsh.atAll {ok : TypeId → Value → Prop} {P : Value → Prop} {w : World} {B : Nat} {e : TypeId} {a : Option Addr} {n cap : Nat} (h : Nsh P w B e (.slice a n cap)) (hn : ∀ v, ¬ ok e v) (i : Nat) (hi : i < n) : ∃ g off u, a = some ⟨g, off, none⟩ ∧ P u ∧ ∀ w', Pk ok B w w' → w'.cell? ⟨g, off + i, none⟩ = some u := by
  obtain ⟨a', n', cap', he, hm, h⟩ := h
  obtain ⟨rfl, rfl, rfl⟩ : a = a' ∧ n = n' ∧ cap = cap' := by simpa using he
  rcases h with h | ⟨g, cur, ha, hB, hg, hs⟩
  · omega
  · obtain ⟨u, e1, p1⟩ := hs i hi
    exact ⟨g, 0, u, ha, p1, fun w' k => by rw [cell_of_row _ _ _ _ _ _ (k.same hg hn), Nat.zero_add, e1]⟩
theorem Pk.cellOf {ok : TypeId → Value → Prop} {B : Nat} {a b : World} (h : Pk ok B a b) {g : Nat} {cur : Array Value} {t : TypeId} (hg : a.heap[g]? = some (.cells cur t (0, 0))) (hn : ∀ v, ¬ ok t v) (j : Nat) : b.cell? ⟨g, j, none⟩ = a.cell? ⟨g, j, none⟩ := by
  rw [cell_of_row _ _ _ _ _ _ hg, cell_of_row _ _ _ _ _ _ (h.same hg hn)]
theorem Pk.set2 {ok : TypeId → Value → Prop} {B : Nat} {a b : World} (h : Pk ok B a b) {g : Nat} {cur : Array Value} {t : TypeId} (hg : b.heap[g]? = some (.cells cur t (0, 0))) (hB : B ≤ g) (i j : Nat) (v u : Value) (ho : ok t v) (ho2 : ok t u) : Pk ok B a ((b.setCell ⟨g, i, none⟩ v).setCell ⟨g, j, none⟩ u) :=
  (h.set hg hB i v ho).set (heap_setCell_same _ _ i _ _ v hg) hB j u ho2
end Go.Proofs.YtcgpgflnihjpiagGreat
namespace Go.Proofs.YtcgpgflnihjpiagGreat
open Go.ChangeShapes Go.WideShapes Go.ChangeAt Go.RowKit
set_option maxRecDepth 100000 in
set_option maxHeartbeats 16000000 in
theorem restRepos_walk (a : Option Addr) (n cap : Nat) (C : List M.Com) (a2 : Option Addr) (n2 cap2 : Nat) (H : List M.Hd) (x : M.Act) (a3 : Option Addr) (m3 cap3 : Nat) (a4 : Option Addr) (n4 cap4 : Nat) (l : List (Int × Int)) (w : World) (hV : RepoV w a n cap C a2 n2 cap2 H) (hc2 : n2 ≤ cap2) (hcm : cap2 ≤ maxLen) (hrc : Rc w a3 m3 x.chs) (hm3 : m3 ≤ 9223372036854775807) (hss : (M.str x.one).size ≤ 9223372036854775807) (hl : Sl w a4 n4 cap4 l) :
    Calls Tryz.prog 5 #[.agg #[.slice a n cap, .slice a2 n2 cap2], actV x a3 m3 cap3, .slice a4 n4 cap4] w fun e w' => e = .returned (.bool true) ∧ Below w.heap.size w w' := by
  obtain ⟨p, hp⟩ : ∃ p, p = w.heap.size := ⟨_, rfl⟩
  obtain ⟨W1, hW1⟩ : ∃ W1, W1 = w.alloc (.cells #[.slice a n cap, .slice a2 n2 cap2] 35) := ⟨_, rfl⟩
  obtain ⟨W, hW⟩ : ∃ W, W = W1.alloc (.cells #[.int .i64 x.kind, .string (M.str x.one), .string (M.str x.two), .slice a3 m3 cap3] 30) := ⟨_, rfl⟩
  have hb1 : Below w.heap.size w W1 := by rw [hW1]; exact (Below.refl _ _).alloc (Nat.le_refl _) _
  have hb2 : Below W1.heap.size W1 W := by rw [hW]; exact (Below.refl _ _).alloc (Nat.le_refl _) _
  have hb : Below w.heap.size w W := dbelow2 hb1 hb2
  have HB1 : KBox W1 p a n cap C a2 n2 cap2 H := by rw [hW1, hp]; exact KBox.new hV
  have HB : Hid (KBox W p a n cap C a2 n2 cap2 H) := HB1.later hb2
  have hs1 : W1.heap.size = p + 1 := by rw [hW1, hp]; simp
  have j0 : W.cell? ⟨p + 1, 0, none⟩ = some (.int .i64 x.kind) := by rw [hW, ← hs1]; simp [go_sem]
  have j1 : W.cell? ⟨p + 1, 1, none⟩ = some (.string (M.str x.one)) := by rw [hW, ← hs1]; simp [go_sem]
  have j2 : W.cell? ⟨p + 1, 2, none⟩ = some (.string (M.str x.two)) := by rw [hW, ← hs1]; simp [go_sem]
  have j3 : W.cell? ⟨p + 1, 3, none⟩ = some (.slice a3 m3 cap3) := by rw [hW, ← hs1]; simp [go_sem]
  have hpl : p + 1 < W.heap.size := by rw [hW]; simp; omega
  obtain ⟨E, hE⟩ : ∃ E, E = M.doE C H x := ⟨_, rfl⟩
  have F1 : Hid (∀ V, Below W.heap.size W V → Calls Tryz.prog 14 #[.agg #[.slice a n cap, .slice a2 n2 cap2], actV x a3 m3 cap3] V fun e w' => ∃ v, e = .returned (.tuple #[v, .int .i64 E]) ∧ RepoOwn w' V.heap.size v (M.doC C H x) (M.doH C H x) ∧ Below V.heap.size V w') := fun V hB => by rw [hE]; exact do_any a n cap C a2 n2 cap2 H x a3 m3 cap3 V (HB.out.v.later hB) ((hrc.below hb (Nat.le_refl _)).below hB (Nat.le_refl _)) hm3 hss
  have F2 : Hid (∀ V, Below W.heap.size W V → Calls Tryz.prog 19 #[.agg #[.slice a n cap, .slice a2 n2 cap2], actV x a3 m3 cap3] V fun e w' => ∃ v, e = .returned (.tuple #[v, .int .i64 E]) ∧ RepoOwn w' V.heap.size v (M.doC C H x) (M.doH C H x) ∧ Below V.heap.size V w') := fun V hB => by rw [hE]; exact doOf_any a n cap C a2 n2 cap2 H x a3 m3 cap3 V (HB.out.v.later hB) hc2 hcm ((hrc.below hb (Nat.le_refl _)).below hB (Nat.le_refl _)) hm3 hss
  have HLW : Hid (Sl W a4 n4 cap4 l) := hl.below hb
  have HL4 : Aside (l.length = n4) := hl.1.1
  unfold actV at F1 F2 ⊢
  obtain ⟨kd, hkd⟩ : ∃ kd, kd = x.kind := ⟨_, rfl⟩
  obtain ⟨so, hso⟩ : ∃ so, so = M.str x.one := ⟨_, rfl⟩
  obtain ⟨st, hst⟩ : ∃ st, st = M.str x.two := ⟨_, rfl⟩
  rw [← hkd, ← hso, ← hst] at F1 F2 ⊢
  rw [← hkd] at j0 hW
  rw [← hso] at j1 hW
  rw [← hst] at j2 hW
  have HW : Hid (W = (w.alloc (.cells #[.slice a n cap, .slice a2 n2 cap2] 35)).alloc (.cells #[.int .i64 kd, .string so, .string st, .slice a3 m3 cap3] 30)) := by rw [← hW1]; exact hW
  have HP : Aside (p = w.heap.size) := hp
  have HJ : Hid (∀ V, Below W.heap.size W V → V.cell? ⟨p + 1, 0, none⟩ = some (.int .i64 kd) ∧ V.cell? ⟨p + 1, 1, none⟩ = some (.string so) ∧ V.cell? ⟨p + 1, 2, none⟩ = some (.string st) ∧ V.cell? ⟨p + 1, 3, none⟩ = some (.slice a3 m3 cap3)) := fun V hV => ⟨(hV.cell (p := ⟨p + 1, 0, none⟩) hpl).trans j0, (hV.cell (p := ⟨p + 1, 1, none⟩) hpl).trans j1, (hV.cell (p := ⟨p + 1, 2, none⟩) hpl).trans j2, (hV.cell (p := ⟨p + 1, 3, none⟩) hpl).trans j3⟩
  have b0 : Below W.heap.size W W := Below.refl _ _
  have c0 := HB.out.c0
  have c1 := HB.out.c1
  obtain ⟨T, hT⟩ : ∃ T, T = (if M.chk l = 0 then M.build l else []) := ⟨_, rfl⟩
  obtain ⟨K, hK⟩ : ∃ K, K = M.rchk C H := ⟨_, rfl⟩
  obtain ⟨Q, hQ⟩ : ∃ Q, Q = M.chk l := ⟨_, rfl⟩
  have G1 : Hid (∀ V, Below W.heap.size W V → Calls Tryz.prog 18 #[.slice a4 n4 cap4] V fun e w' => ∃ v, e = .returned (.tuple #[v, .int .i64 Q]) ∧ OwnT w' V.heap.size v T ∧ Below V.heap.size V w') := fun V hB => by rw [hQ, hT]; exact build_any a4 n4 cap4 l V (HLW.out.below hB)
  have G2 : Hid (∀ V, Below W.heap.size W V → Calls Tryz.prog 20 #[.slice a4 n4 cap4] V fun e w' => ∃ v, e = .returned (.tuple #[v, .int .i64 Q]) ∧ OwnT w' V.heap.size v T ∧ Below V.heap.size V w') := fun V hB => by rw [hQ, hT]; exact buildOf_any a4 n4 cap4 l V (HLW.out.below hB)
  have KE : Hid (Calls Tryz.prog 15 #[.agg #[.slice a n cap, .slice a2 n2 cap2]] W fun e w' => e = .returned (.int .i64 K) ∧ Below W.heap.size W w') := by rw [hK]; exact rerror_any a n cap C a2 n2 cap2 H W HB.out.v.cm HB.out.v.nm HB.out.v.hs HB.out.v.hm
  have KR : Hid (∀ V, Below W.heap.size W V → Calls Tryz.prog 16 #[.slice a4 n4 cap4] V fun e w' => e = .returned (.int .i64 Q) ∧ Below V.heap.size V w') := fun V hB => by rw [hQ]; exact error_any a4 n4 cap4 l V (HLW.out.below hB).1 HLW.out.len
  have KO : Hid (K = 0 → ∀ V, Below W.heap.size W V → Calls Tryz.prog 17 #[.agg #[.slice a n cap, .slice a2 n2 cap2]] V fun e w' => ∃ v, e = .returned v ∧ RepoOwn w' V.heap.size v C H ∧ Below V.heap.size V w') := fun h0 V hB => ownRepo_any a n cap C a2 n2 cap2 H V (HB.out.v.later hB) (by rw [← hK]; exact h0)
  have HQ : Hid (Q = M.chk l) := hQ
  have HNC : Aside (C.length = n) := HB.out.v.cm.1
  have HNH : Aside (H.length = n2) := HB.out.v.hs.1
  rw [HW.out, HP.out] at c0 c1 j0 j1 j2 j3
  clear hW1 hW hp hV hrc hss hkd hso hst hE HB1 hb1 hb2 hs1 hT hK hQ hl
  go_enter Tryz.func5, Tryz.ntmps5
  go_wp2_with fail
  rw [← HW.out, ← HP.out]
  clear j0 j1 j2 j3 c0 c1
  refine KE.out.mono ?_
  rintro e w1 ⟨rfl, b1⟩
  by_cases hK0 : K = 0
  case neg =>
    have hKb : (K != 0) = true := by simp [hK0]
    clear hK0 KE
    go_wp2_with fail
    refine (lbegun_any w1).mono ?_
    rintro e v4 ⟨rfl, b4⟩
    have bZ := hb.trans ((dbelow2 b1 b4).mono hb.size)
    clear b4
    go_wp2
    go_ret
    exact ⟨rfl, bZ⟩
  have KO1 := KO.out hK0
  have KO2 : Hid (∀ V, Below W.heap.size W V → Calls Tryz.prog 17 #[.agg #[.slice a n cap, .slice a2 n2 cap2]] V fun e w' => ∃ v, e = .returned v ∧ RepoOwn w' V.heap.size v C H ∧ Below V.heap.size V w') := KO1
  clear KO KO1
  subst hK0
  go_wp2_with fail
  refine (KR.out w1 b1).mono ?_
  rintro e w2 ⟨rfl, bb2⟩
  have b2 := dbelow2 b1 bb2
  clear b1 bb2 KE
  by_cases hQ0 : Q = 0
  case neg =>
    have hQb : (Q != 0) = true := by simp [hQ0]
    clear hQ0
    go_wp2_with fail
    refine (lbegun_any w2).mono ?_
    rintro e v4 ⟨rfl, b4⟩
    have bZ := hb.trans ((dbelow2 b2 b4).mono hb.size)
    clear b4
    go_wp2
    go_ret
    exact ⟨rfl, bZ⟩
  subst hQ0
  have hl40 : n4 ≤ 40 := by rw [← HL4.out]; exact ((M.chk_zero l).1 HQ.out.symm).1
  have c0 := (HB.out.later b2).c0
  have c1 := (HB.out.later b2).c1
  go_wp2_with fail
  clear c0 c1
  refine (KO2.out w2 b2).mono ?_
  rintro e w3 ⟨v7, rfl, o7, bb3⟩
  have b3 := dbelow2 b2 bb3
  obtain ⟨xa7, xc7, ya7, yc7, rfl, V7⟩ := o7.v
  rw [HNC.out, HNH.out] at V7 ⊢
  obtain ⟨p7, hp7⟩ : ∃ p, p = w3.heap.size := ⟨_, rfl⟩
  obtain ⟨Z1, hZ1⟩ : ∃ X, X = w3.alloc (.cells #[.slice xa7 n xc7, .slice ya7 n2 yc7] 35) := ⟨_, rfl⟩
  have bZ1 : Below w3.heap.size w3 Z1 := by rw [hZ1]; exact (Below.refl _ _).alloc (Nat.le_refl _) _
  have HB7 : Hid (KBox Z1 p7 xa7 n xc7 C ya7 n2 yc7 H) := by rw [hZ1, hp7]; exact KBox.new V7
  have HZ1 : Hid (Z1 = w3.alloc (.cells #[.slice xa7 n xc7, .slice ya7 n2 yc7] 35)) := hZ1
  have HP7 : Aside (p7 = w3.heap.size) := hp7
  have b4 := dbelow2 b3 bZ1
  have HOe : Hid (Own (Z1.alloc (.cells #[] 56)) Z1.heap.size (.slice (some ⟨Z1.heap.size, 0, none⟩) 0 0) []) := own_empty0 Z1
  have bE : Below Z1.heap.size Z1 (Z1.alloc (.cells #[] 56)) := (Below.refl _ _).alloc (Nat.le_refl _) _
  have HLe : Hid (Sl (Z1.alloc (.cells #[] 56)) a4 n4 cap4 l) := HLW.out.below (dbelow2 b4 bE)
  have HSZ : Hid (Z1.heap.size ≤ (Z1.alloc (.cells #[] 56)).heap.size) := by unfold Hid; simp
  clear o7 V7 hZ1 hp7 bZ1 b2 bb3 b3
  have hsz1 : Z1.heap.size = w3.heap.size + 1 := by rw [HZ1.out]; simp
  rw [hsz1] at HOe HSZ
  rw [HZ1.out] at HOe HLe HSZ
  go_wp2_with (at_builtin; refine append_rd rfl _ _ rfl _ _ [] rfl HOe.out a4 n4 cap4 l rfl HLe.out.1 HLe.out.2.2.2 (by simp; omega) HSZ.out ?_)
  intro v8 Z ho8 hb8
  rw [← hsz1] at ho8 hb8
  rw [← HZ1.out] at hb8
  have bZ0 : Below Z1.heap.size Z1 Z := bE.trans hb8
  replace ho8 : Own Z Z1.heap.size v8 l := ho8
  obtain ⟨a8, c8, rfl, rd8, _⟩ := ho8.rd
  rw [HL4.out] at rd8
  rw [HL4.out]
  have HR8 : Hid (Rd Z a8 n4 l) := rd8
  have bZ := dbelow2 b4 bZ0
  have HB7 : Hid (KBox Z p7 xa7 n xc7 C ya7 n2 yc7 H) := HB7.out.later bZ0
  rw [← HP7.out]
  clear hsz1 ho8 hb8 rd8 bE bZ0 HOe HLe HSZ HZ1 HP7 b4 KR KO2
  have c0 := (HB.out.later bZ).c0
  have c1 := (HB.out.later bZ).c1
  obtain ⟨j0, j1, j2, j3⟩ := HJ.out Z bZ
  go_wp2_with fail
  clear c0 c1 j0 j1 j2 j3
  refine (F1.out Z bZ).mono ?_
  rintro e v1 ⟨r1, rfl, ⟨x1, y1, rfl, ok1, oh1⟩, bb1⟩
  obtain ⟨xa, xn, xc, rfl⟩ := (Csh.of ok1).slice
  obtain ⟨ya, yn, yc, rfl⟩ := (Sh.of oh1.1).slice
  obtain ⟨p9, hp9⟩ : ∃ p, p = v1.heap.size := ⟨_, rfl⟩
  obtain ⟨X1, hX1⟩ : ∃ X, X = v1.alloc (.cells #[.slice xa xn xc, .slice ya yn yc] 35) := ⟨_, rfl⟩
  have bX1 : Below v1.heap.size v1 X1 := by rw [hX1]; exact (Below.refl _ _).alloc (Nat.le_refl _) _
  have blk1 : X1.heap[p9]? = some (.cells #[.slice xa xn xc, .slice ya yn yc] 35 (0, 0)) := by rw [hX1, hp9]; exact heap_alloc_new _ _
  have hzX1 := dbelow2 bb1 bX1
  have HX1 : Hid (X1 = v1.alloc (.cells #[.slice xa xn xc, .slice ya yn yc] 35)) := hX1
  have HP9 : Aside (p9 = v1.heap.size) := hp9
  have HK1 : Hid (OwnK v1 Z.heap.size (.slice xa xn xc) (M.doC C H x)) := ok1
  have HH1 : Hid (OwnH v1 Z.heap.size (.slice ya yn yc) (M.doH C H x)) := oh1
  clear hX1 hp9 ok1 oh1
  go_wp2_with fail
  rw [← HX1.out, ← HP9.out]
  refine (G1.out X1 (dbelow2 bZ hzX1)).mono ?_
  rintro e X ⟨r2, rfl, ot, bb2⟩
  obtain ⟨ta, tn, tc, rfl⟩ := (Tsh.of ot).slice
  obtain ⟨B, hB⟩ : ∃ B, B = Z.heap.size := ⟨_, rfl⟩
  have HTs : Hid (Tsh X B (.slice ta tn tc)) := by rw [hB]; exact Tsh.of (ot.mono hzX1.size)
  have hcs0 : Csh X B (.slice xa xn xc) := by rw [hB]; exact Csh.of (HK1.out.later (dbelow2 bX1 bb2))
  have hhs0 : Sh X B 58 2 (.slice ya yn yc) := by rw [hB]; exact Sh.of (HH1.out.later (dbelow2 bX1 bb2)).1
  have blk2 : X.heap[p9]? = some (.cells #[.slice xa xn xc, .slice ya yn yc] 35 (0, 0)) := (bb2.block p9 (Array.getElem?_eq_some_iff.1 blk1).1).trans blk1
  have no : ∀ t, t ≠ 56 → t ≠ 3 → t ≠ 58 → t ≠ 54 → ∀ v, ¬ okG t v := by
    intro t h1 h2 h3 h4 v ho
    rcases ho with e | e | e | ⟨e, _⟩
    · exact h1 e
    · exact h2 e
    · exact h3 e
    · exact h4 e
  have HC : Hid (∀ wr, Pk okG B X wr → Csh wr B (.slice xa xn xc) ∧ Sh wr B 58 2 (.slice ya yn yc) ∧ wr.cell? ⟨p9, 0, none⟩ = some (.slice xa xn xc) ∧ wr.cell? ⟨p9, 1, none⟩ = some (.slice ya yn yc)) := fun wr k => by
    have blk := k.same blk2 (no _ (by decide) (by decide) (by decide) (by decide))
    exact ⟨hcs0.pk k, hhs0.pk k, by rw [cell_of_row _ _ _ _ _ _ blk]; rfl, by rw [cell_of_row _ _ _ _ _ _ blk]; rfl⟩
  have HNL : Hid (∀ v, ¬ okG 47 v) := no _ (by decide) (by decide) (by decide) (by decide)
  have HNT : Hid (∀ v, ¬ okG 59 v) := no _ (by decide) (by decide) (by decide) (by decide)
  have hzX := dbelow2 hzX1 bb2
  have hxn : xn ≤ 9223372036854775807 := hcs0.len
  have hyn : yn ≤ 9223372036854775807 := hhs0.len
  have htn : tn ≤ 9223372036854775807 := Nsh.len HTs.out
  have HBZ : Hid (B = Z.heap.size) := hB
  clear hB no blk1 blk2 hcs0 hhs0 HK1 HH1 ot bb2 bX1 bb1 hzX1 HX1 HP9 hl40
  go_wp2
  go_loopg [13] xn (fun g v wr => ∃ k : Nat, k + g = xn ∧ v = .int .i64 k ∧ Aside (Pk okG B X wr))
  case atStart => exact ⟨0, by omega, rfl, Pk.refl _ _ _⟩
  case round =>
    obtain ⟨k, hk, rfl, hP⟩ := hrel
    obtain ⟨wo, hwo⟩ : ∃ wo, wo = wr := ⟨_, rfl⟩
    subst hwo
    obtain ⟨go, hgo⟩ : ∃ go, go = gk := ⟨_, rfl⟩
    subst hgo
    obtain ⟨hcs, hhs, e0, e1⟩ := HC.out wo hP.out
    by_cases hkn : k < xn
    · have hki : (k : Int) < (xn : Int) := by omega
      obtain ⟨g, off, cur, a5, n5, c5, a6, n6, c6, rfl, hgB, hgc, q1, q2, f1, f2, s5, s6⟩ := hcs.at k hkn
      have HGC : Hid (wo.heap[g]? = some (.cells cur 54 (0, 0))) := hgc
      have h5 := s5.len
      have h6 := s6.len
      have HS5 : Hid (Sh wo B 56 2 (.slice a5 n5 c5)) := s5
      have HS6 : Hid (Sh wo B 3 1 (.slice a6 n6 c6)) := s6
      have HQ1 : Hid (wo.cell? ⟨g, off + k * 2, none⟩ = some (.slice a5 n5 c5)) := q1
      have HQ2 : Hid (wo.cell? ⟨g, off + k * 2 + 1, none⟩ = some (.slice a6 n6 c6)) := q2
      clear hcs hhs s5 s6 hgc f1 f2 q2
      go_wp2
      clear e0 e1 q1
      go_loopg [14] n5 (fun g v wq => ∃ i : Nat, i + g = n5 ∧ v = .int .i64 i ∧ Aside (Pk (fun t _ => t = 56) B wo wq))
      case atStart => exact ⟨0, by omega, rfl, Pk.refl _ _ _⟩
      case round =>
        obtain ⟨i, hi, rfl, hP2⟩ := hrel
        have hP2g : Pk okG B X wr := hP.out.trans (hP2.out.mono fun t v h => .inl h)
        obtain ⟨_, _, e0, e1⟩ := HC.out wr hP2g
        have q1 := (hP2.out.cellOf HGC.out (fun v h => absurd h (by decide)) (off + k * 2)).trans HQ1.out
        by_cases hin : i < n5
        · have hii : (i : Int) < (n5 : Int) := by omega
          obtain ⟨g1, off1, cur1, u1, u2, rfl, hB1, hg1, k1, k2, f1, f2⟩ := (HS5.out.pk hP2.out).two i hin
          have HN1 : Hid (∀ v u, Pk (fun t _ => t = 56) B wo ((wr.setCell ⟨g1, off1 + i * 2, none⟩ v).setCell ⟨g1, off1 + i * 2 + 1, none⟩ u)) := fun v u => hP2.out.set2 hg1 hB1 _ _ v u rfl rfl
          clear hg1 hP2g hP2
          go_wp2
          go_roundg (gk - 1)
          case measure => omega
          case rel => exact ⟨i + 1, by omega, by go_num, HN1.out _ _⟩
        · obtain rfl : i = n5 := by omega
          have hii : decide ((i : Int) < (i : Int)) = false := by simp
          obtain ⟨wp, hwp⟩ : ∃ wp, wp = wr := ⟨_, rfl⟩
          subst hwp
          have HPp : Hid (Pk okG B X wp) := hP2g
          have hgc2 := hP2.out.same HGC.out (fun v h => absurd h (by decide))
          have HGC2 : Hid (wp.heap[g]? = some (.cells cur 54 (0, 0))) := hgc2
          have q2 := (hP2.out.cellOf HGC.out (fun v h => absurd h (by decide)) (off + k * 2 + 1)).trans HQ2.out
          have HQ3 : Hid (wp.cell? ⟨g, off + k * 2 + 1, none⟩ = some (.slice a6 n6 c6)) := q2
          have HS7 : Hid (Sh wp B 3 1 (.slice a6 n6 c6)) := HS6.out.pk hP2.out
          clear hP2 hP2g hgc2 HGC HQ1 HQ2 HS5 HS6
          have q2' : wp.cell? ⟨g, off + (k * 2 + 1), none⟩ = some (.slice a6 n6 c6) := q2
          go_wp2
          clear e0 e1 q1 q2 q2'
          go_loopg [15] n6 (fun g v wq => ∃ i : Nat, i + g = n6 ∧ v = .int .i64 i ∧ Aside (Pk (fun t _ => t = 3) B wp wq))
          case atStart => exact ⟨0, by omega, rfl, Pk.refl _ _ _⟩
          case round =>
            obtain ⟨j, hj, rfl, hP3⟩ := hrel
            have hP3g : Pk okG B X wr := HPp.out.trans (hP3.out.mono fun t v h => .inr (.inl h))
            obtain ⟨_, _, e0, e1⟩ := HC.out wr hP3g
            have hgc3 := hP3.out.same HGC2.out (fun v h => absurd h (by decide))
            have q2 := (hP3.out.cellOf HGC2.out (fun v h => absurd h (by decide)) (off + k * 2 + 1)).trans HQ3.out
            have q2' : wr.cell? ⟨g, off + (k * 2 + 1), none⟩ = some (.slice a6 n6 c6) := q2
            by_cases hjn : j < n6
            · have hjj : (j : Int) < (n6 : Int) := by omega
              obtain ⟨g1, off1, cur1, u1, rfl, hB1, hg1, k1, f1⟩ := (HS7.out.pk hP3.out).one j hjn
              have HN1 : Hid (∀ v, Pk (fun t _ => t = 3) B wp (wr.setCell ⟨g1, off1 + j, none⟩ v)) := fun v => hP3.out.set hg1 hB1 _ v rfl
              clear hg1 hP3g hP3 hgc3
              go_wp2
              go_roundg (gk - 1)
              case measure => omega
              case rel => exact ⟨j + 1, by omega, by go_num, HN1.out _⟩
            · obtain rfl : j = n6 := by omega
              have hjj : decide ((j : Int) < (j : Int)) = false := by simp
              have f1 : wr.frozen? ⟨g, off + k * 2, none⟩ = false := frozen_of_row _ _ _ _ _ hgc3
              have f2 : wr.frozen? ⟨g, off + k * 2 + 1, none⟩ = false := frozen_of_row _ _ _ _ _ hgc3
              obtain ⟨u1, q1⟩ : ∃ u, wr.cell? ⟨g, off + k * 2, none⟩ = some u := by
                obtain ⟨g', off', _, a5', n5', c5', _, _, _, he, _, _, hq, _⟩ := (HC.out wr hP3g).1.at k hkn
                obtain ⟨rfl, rfl⟩ : g = g' ∧ off = off' := by simpa using he
                exact ⟨_, hq⟩
              have HN2 : Hid (Pk okG B X ((wr.setCell ⟨g, off + k * 2, none⟩ (.slice none 0 0)).setCell ⟨g, off + k * 2 + 1, none⟩ (.slice none 0 0))) := hP3g.set2 hgc3 hgB _ _ _ _ (.inr (.inr (.inr ⟨rfl, rfl⟩))) (.inr (.inr (.inr ⟨rfl, rfl⟩)))
              clear hP3 hP3g hgc3 HGC2 HQ3 HS7 HPp
              go_wp2
              go_roundg (go - 1)
              case measure => omega
              case rel => exact ⟨k + 1, by omega, by go_num, HN2.out⟩
    · obtain rfl : k = xn := by omega
      have hkk : decide ((k : Int) < (k : Int)) = false := by simp
      clear hcs hhs
      go_wp2
      clear e0 e1
      go_loopg [16] yn (fun g v wr => ∃ i : Nat, i + g = yn ∧ v = .int .i64 i ∧ Aside (Pk okG B X wr))
      case atStart => exact ⟨0, by omega, rfl, hP⟩
      case round =>
        obtain ⟨i, hi, rfl, hP⟩ := hrel
        obtain ⟨hcs, hhs, e0, e1⟩ := HC.out wr hP.out
        by_cases hin : i < yn
        · have hii : (i : Int) < (yn : Int) := by omega
          obtain ⟨g1, off1, cur1, u1, u2, rfl, hB1, hg1, k1, k2, f1, f2⟩ := hhs.two i hin
          have HN1 : Hid (∀ v u, Pk okG B X ((wr.setCell ⟨g1, off1 + i * 2, none⟩ v).setCell ⟨g1, off1 + i * 2 + 1, none⟩ u)) := fun v u => hP.out.set2 hg1 hB1 _ _ v u (.inr (.inr (.inl rfl))) (.inr (.inr (.inl rfl)))
          clear hg1 hP hcs hhs
          go_wp2
          go_roundg (gk - 1)
          case measure => omega
          case rel => exact ⟨i + 1, by omega, by go_num, HN1.out _ _⟩
        · obtain rfl : i = yn := by omega
          have hii : decide ((i : Int) < (i : Int)) = false := by simp
          clear hcs hhs
          go_wp2
          clear e0 e1
          go_loopg [17] tn (fun g v wr => ∃ i : Nat, i + g = tn ∧ v = .int .i64 i ∧ Aside (Pk okG B X wr))
          case atStart => exact ⟨0, by omega, rfl, hP⟩
          case round =>
            obtain ⟨m, hm, rfl, hP⟩ := hrel
            obtain ⟨gm, hgm⟩ : ∃ gm, gm = gk := ⟨_, rfl⟩
            subst hgm
            by_cases hmn : m < tn
            · have hmm : (m : Int) < (tn : Int) := by omega
              obtain ⟨g, off, u, rfl, hu, hcell⟩ := Nsh.atAll HTs.out HNT.out m hmn
              obtain ⟨la, ln, lc, rfl⟩ := Nsh.slice hu
              have hln : ln ≤ 9223372036854775807 := Nsh.len hu
              have HU : Hid (Lsh X B (.slice la ln lc)) := hu
              have HCe : Hid (∀ w', Pk okG B X w' → w'.cell? ⟨g, off + m, none⟩ = some (.slice la ln lc)) := hcell
              clear hu hcell
              go_wp2
              go_loopg [18] ln (fun g v wr => ∃ i : Nat, i + g = ln ∧ v = .int .i64 i ∧ Aside (Pk okG B X wr))
              case atStart => exact ⟨0, by omega, rfl, hP⟩
              case round =>
                obtain ⟨q, hq, rfl, hP⟩ := hrel
                obtain ⟨gq, hgq⟩ : ∃ gq, gq = gk := ⟨_, rfl⟩
                subst hgq
                have t1 := HCe.out wr hP.out
                by_cases hqn : q < ln
                · have hqq : (q : Int) < (ln : Int) := by omega
                  obtain ⟨g', off', u, rfl, hu, hcell⟩ := Nsh.atAll HU.out HNL.out q hqn
                  obtain ⟨ca, cn, cc, rfl⟩ := hu.slice
                  have hcn : cn ≤ 9223372036854775807 := hu.len
                  have HU2 : Hid (Sh X B 56 2 (.slice ca cn cc)) := hu
                  have HCe2 : Hid (∀ w', Pk okG B X w' → w'.cell? ⟨g', off' + q, none⟩ = some (.slice ca cn cc)) := hcell
                  clear hu hcell
                  go_wp2
                  clear t1
                  go_loopg [19] cn (fun g v wr => ∃ i : Nat, i + g = cn ∧ v = .int .i64 i ∧ Aside (Pk okG B X wr))
                  case atStart => exact ⟨0, by omega, rfl, hP⟩
                  case round =>
                    obtain ⟨z, hz, rfl, hP⟩ := hrel
                    have t1 := HCe.out wr hP.out
                    have t2 := HCe2.out wr hP.out
                    by_cases hzn : z < cn
                    · have hzz : (z : Int) < (cn : Int) := by omega
                      obtain ⟨g1, off1, cur1, u1, u2, rfl, hB1, hg1, k1, k2, f1, f2⟩ := (HU2.out.pk hP.out).two z hzn
                      have HN1 : Hid (∀ v u, Pk okG B X ((wr.setCell ⟨g1, off1 + z * 2, none⟩ v).setCell ⟨g1, off1 + z * 2 + 1, none⟩ u)) := fun v u => hP.out.set2 hg1 hB1 _ _ v u (.inl rfl) (.inl rfl)
                      clear hg1 hP
                      go_wp2
                      go_roundg (gk - 1)
                      case measure => omega
                      case rel => exact ⟨z + 1, by omega, by go_num, HN1.out _ _⟩
                    · obtain rfl : z = cn := by omega
                      have hzz : decide ((z : Int) < (z : Int)) = false := by simp
                      go_wp2
                      go_roundg (gq - 1)
                      case measure => omega
                      case rel => exact ⟨q + 1, by omega, by go_num, hP⟩
                · obtain rfl : q = ln := by omega
                  have hqq : decide ((q : Int) < (q : Int)) = false := by simp
                  go_wp2
                  go_roundg (gm - 1)
                  case measure => omega
                  case rel => exact ⟨m + 1, by omega, by go_num, hP⟩
            · obtain rfl : m = tn := by omega
              have hmm : decide ((m : Int) < (m : Int)) = false := by simp
              have bzw : Below Z.heap.size Z wr := hzX.trans (by rw [← HBZ.out]; exact hP.out.below)
              obtain ⟨V0, hV0⟩ : ∃ V0, V0 = wr := ⟨_, rfl⟩
              subst hV0
              have b5 : Below W.heap.size W V0 := dbelow2 bZ bzw
              have HB7 : Hid (KBox V0 p7 xa7 n xc7 C ya7 n2 yc7 H) := HB7.out.later bzw
              have HR8 : Hid (Rd V0 a8 n4 l) := HR8.out.below bzw (Nat.le_refl _)
              have c0 := (HB.out.later b5).c0
              have c1 := (HB.out.later b5).c1
              obtain ⟨j0, j1, j2, j3⟩ := HJ.out V0 b5
              clear hP hzX HC HTs HBZ HNL HNT bzw
              go_wp2_with fail
              clear c0 c1 j0 j1 j2 j3
              refine (F1.out V0 b5).mono ?_
              rintro e v2 ⟨r2, rfl, o2, bb⟩
              obtain ⟨xa2, xc2, ya2, yc2, rfl, V2⟩ := o2.v
              obtain ⟨ln1, hln1⟩ : ∃ ln, ln = (M.doC C H x).length := ⟨_, rfl⟩
              obtain ⟨lh1, hlh1⟩ : ∃ lh, lh = (M.doH C H x).length := ⟨_, rfl⟩
              rw [← hln1, ← hlh1] at V2 ⊢
              obtain ⟨X2, hX2⟩ : ∃ X, X = v2.alloc (.cells #[.slice xa2 ln1 xc2, .slice ya2 lh1 yc2] 35) := ⟨_, rfl⟩
              obtain ⟨p2, hp2⟩ : ∃ p, p = v2.heap.size := ⟨_, rfl⟩
              have bX2 : Below v2.heap.size v2 X2 := by rw [hX2]; exact (Below.refl _ _).alloc (Nat.le_refl _) _
              have HB2 : Hid (KBox X2 p2 xa2 ln1 xc2 (M.doC C H x) ya2 lh1 yc2 (M.doH C H x)) := by rw [hX2, hp2]; exact KBox.new V2
              have HX2 : Hid (X2 = v2.alloc (.cells #[.slice xa2 ln1 xc2, .slice ya2 lh1 yc2] 35)) := hX2
              have HP2 : Aside (p2 = v2.heap.size) := hp2
              have q2 : Below V0.heap.size V0 X2 := dbelow2 bb bX2
              have HLn1 : Aside (ln1 = (M.doC C H x).length) := hln1
              have HLh1 : Aside (lh1 = (M.doH C H x).length) := hlh1
              clear hln1 hlh1 o2 V2 hX2 hp2 bX2 bb
              go_wp2_with fail
              rw [← HX2.out, ← HP2.out]
              refine (G1.out X2 (dbelow2 b5 q2)).mono ?_
              rintro e X3 ⟨r3, rfl, o3, bb⟩
              obtain ⟨ta3, tn3, tc3, rfl, T3⟩ := o3.tv
              have HT3 : Hid (TvS X3 ta3 tn3 tc3 T) := T3
              have q3 := dbelow2 q2 bb
              have HB2 : Hid (KBox X3 p2 xa2 ln1 xc2 (M.doC C H x) ya2 lh1 yc2 (M.doH C H x)) := HB2.out.later bb
              have c0 := (HB.out.later (dbelow2 b5 q3)).c0
              have c1 := (HB.out.later (dbelow2 b5 q3)).c1
              obtain ⟨j0, j1, j2, j3⟩ := HJ.out X3 (dbelow2 b5 q3)
              clear o3 T3 bb q2 HX2 HP2
              go_wp2_with fail
              clear c0 c1 j0 j1 j2 j3
              refine (F2.out X3 (dbelow2 b5 q3)).mono ?_
              rintro e v4 ⟨r4, rfl, o4, bb⟩
              obtain ⟨xa4, xc4, ya4, yc4, rfl, V4⟩ := o4.v
              rw [← HLn1.out, ← HLh1.out] at V4 ⊢
              obtain ⟨X4, hX4⟩ : ∃ X, X = v4.alloc (.cells #[.slice xa4 ln1 xc4, .slice ya4 lh1 yc4] 35) := ⟨_, rfl⟩
              obtain ⟨p4, hp4⟩ : ∃ p, p = v4.heap.size := ⟨_, rfl⟩
              have bX4 : Below v4.heap.size v4 X4 := by rw [hX4]; exact (Below.refl _ _).alloc (Nat.le_refl _) _
              have HB4 : Hid (KBox X4 p4 xa4 ln1 xc4 (M.doC C H x) ya4 lh1 yc4 (M.doH C H x)) := by rw [hX4, hp4]; exact KBox.new V4
              have HX4 : Hid (X4 = v4.alloc (.cells #[.slice xa4 ln1 xc4, .slice ya4 lh1 yc4] 35)) := hX4
              have HP4 : Aside (p4 = v4.heap.size) := hp4
              have bx4 := dbelow2 bb bX4
              have q4 : Below V0.heap.size V0 X4 := dbelow2 q3 bx4
              have HB2 : Hid (KBox X4 p2 xa2 ln1 xc2 (M.doC C H x) ya2 lh1 yc2 (M.doH C H x)) := HB2.out.later bx4
              have HT3 : Hid (TvS X4 ta3 tn3 tc3 T) := HT3.out.below bx4
              clear o4 V4 hX4 hp4 bX4 bb q3 bx4
              go_wp2_with fail
              rw [← HX4.out, ← HP4.out]
              refine (G2.out X4 (dbelow2 b5 q4)).mono ?_
              rintro e X5 ⟨r5, rfl, o5, bb⟩
              obtain ⟨ta5, tn5, tc5, rfl, T5⟩ := o5.tv
              have HT5 : Hid (TvS X5 ta5 tn5 tc5 T) := T5
              have q5 := dbelow2 q4 bb
              have HB2 : Hid (KBox X5 p2 xa2 ln1 xc2 (M.doC C H x) ya2 lh1 yc2 (M.doH C H x)) := HB2.out.later bb
              have HB4 : Hid (KBox X5 p4 xa4 ln1 xc4 (M.doC C H x) ya4 lh1 yc4 (M.doH C H x)) := HB4.out.later bb
              have HT3 : Hid (TvS X5 ta3 tn3 tc3 T) := HT3.out.below bb
              clear o5 T5 bb q4 HX4 HP4
              go_wp2_with fail
              refine (lbegun_any _).mono ?_
              rintro e Y1 ⟨rfl, y1⟩
              have q6 := dbelow2 q5 y1
              have HB0 : Hid (KBox Y1 p a n cap C a2 n2 cap2 H) := HB.out.later (dbelow2 b5 q6)
              have HB7 : Hid (KBox Y1 p7 xa7 n xc7 C ya7 n2 yc7 H) := HB7.out.later q6
              have HB2 : Hid (KBox Y1 p2 xa2 ln1 xc2 (M.doC C H x) ya2 lh1 yc2 (M.doH C H x)) := HB2.out.later y1
              have HB4 : Hid (KBox Y1 p4 xa4 ln1 xc4 (M.doC C H x) ya4 lh1 yc4 (M.doH C H x)) := HB4.out.later y1
              have HT3 : Hid (TvS Y1 ta3 tn3 tc3 T) := HT3.out.below y1
              have HT5 : Hid (TvS Y1 ta5 tn5 tc5 T) := HT5.out.below y1
              have HR8 : Hid (Rd Y1 a8 n4 l) := HR8.out.below q6 (Nat.le_refl _)
              have HR4 : Hid (Rd Y1 a4 n4 l) := (HLW.out.below (dbelow2 b5 q6)).1
              have hn63 : n4 ≤ 9223372036854775807 := HLW.out.len
              have bY1 := dbelow2 b5 q6
              have g0 := HB0.out.c0
              have g1 := HB0.out.c1
              have h0 := HB7.out.c0
              have h1 := HB7.out.c1
              have K1 : Hid (Calls Tryz.prog 11 #[.agg #[.slice a n cap, .slice a2 n2 cap2], .agg #[.slice xa7 n xc7, .slice ya7 n2 yc7]] Y1 fun e w' => e = .returned (.bool true) ∧ Below Y1.heap.size Y1 w') := srepos_yes a xa7 n cap xc7 C a2 ya7 n2 cap2 yc7 H Y1 HB0.out.v.cm HB7.out.v.cm HB0.out.v.nm HB0.out.v.hs HB7.out.v.hs HB0.out.v.hm
              clear y1 q5 q6 b5
              have hEE : (E == E) = true := by simp
              go_wp2_with fail
              refine K1.out.mono ?_
              rintro e Y2 ⟨rfl, y2⟩
              clear K1 g0 g1 h0 h1
              have HB2 : Hid (KBox Y2 p2 xa2 ln1 xc2 (M.doC C H x) ya2 lh1 yc2 (M.doH C H x)) := HB2.out.later y2
              have HB4 : Hid (KBox Y2 p4 xa4 ln1 xc4 (M.doC C H x) ya4 lh1 yc4 (M.doH C H x)) := HB4.out.later y2
              have g0 := HB2.out.c0
              have g1 := HB2.out.c1
              have h0 := HB4.out.c0
              have h1 := HB4.out.c1
              have K2 : Hid (Calls Tryz.prog 11 #[.agg #[.slice xa2 ln1 xc2, .slice ya2 lh1 yc2], .agg #[.slice xa4 ln1 xc4, .slice ya4 lh1 yc4]] Y2 fun e w' => e = .returned (.bool true) ∧ Below Y2.heap.size Y2 w') := srepos_yes xa2 xa4 ln1 xc2 xc4 _ ya2 ya4 lh1 yc2 yc4 _ Y2 HB2.out.v.cm HB4.out.v.cm HB2.out.v.nm HB2.out.v.hs HB4.out.v.hs HB2.out.v.hm
              go_wp2_with fail
              refine K2.out.mono ?_
              rintro e Y3 ⟨rfl, y3⟩
              clear K2 g0 g1 h0 h1
              have y23 := dbelow2 y2 y3
              have K3 : Hid (Calls Tryz.prog 21 #[.slice a4 n4 cap4, .slice a8 n4 c8] Y3 fun e w' => e = .returned (.bool true) ∧ Below Y3.heap.size Y3 w') := (same_yes a4 a8 n4 cap4 c8 l Y3 (HR4.out.below y23 (Nat.le_refl _)) (HR8.out.below y23 (Nat.le_refl _)) hn63).mono fun e w' ⟨h1, m, h2⟩ => ⟨h1, by rw [h2]; exact below_drewN (Below.refl _ _) m⟩
              go_wp2_with fail
              refine K3.out.mono ?_
              rintro e Y4 ⟨rfl, y4⟩
              have y24 := dbelow2 y23 y4
              have K4 := tsame_any ta3 ta5 tn3 tn5 tc3 tc5 T T Y4 (HT3.out.below y24).1 (HT5.out.below y24).1 HT3.out.len
              have hTT : decide (T = T) = true := by simp
              rw [hTT] at K4
              have HK4 : Hid (Calls Tryz.prog 22 #[.slice ta3 tn3 tc3, .slice ta5 tn5 tc5] Y4 fun e w' => e = .returned (.bool true) ∧ Below Y4.heap.size Y4 w') := K4
              clear K3 K4 hTT
              go_wp2_with fail
              refine HK4.out.mono ?_
              rintro e Y5 ⟨rfl, y5⟩
              have bF : Below w.heap.size w Y5 := hb.trans ((dbelow2 bY1 (dbelow2 y24 y5)).mono hb.size)
              clear HK4 y2 y3 y23 y4 y24 y5 bY1
              go_wp2
              go_ret
              exact ⟨rfl, bF⟩
set_option maxRecDepth 100000 in
theorem restRepos_lifted (os : Os) (started : os.Started) (H : Type) (enc : TypeId × Value → H) :
    ReturnsInHanded {} Tryz.checked os 5 .any (Rows.restReposSpec.pre6 enc Tryz.prog Tryz.f5 Rows.restReposRow.domain false) (Rows.restReposSpec.post enc Tryz.prog Tryz.f5 false true false false) := by
  refine returnsInHanded_of_change (C := Tryz.checked) ownTry started (by kernel_rfl) Tryz.func5
    (ChangeSpec.witness6 (enc := enc) (C := Tryz.checked) false ⟨#[], #[.agg #[.slice none 0 0, .slice none 0 0], .agg #[.int .i64 0, .string ⟨#[]⟩, .string ⟨#[]⟩, .slice none 0 0], .slice none 0 0], []⟩ 8 (by kernel_rfl) (by kernel_rfl) (by kernel_rfl) (by kernel_rfl)) ?_
  intro W base args ds gs before hval0 hW hcnd _
  have hval : ∀ (j : Nat) t v, Tryz.f5.params[j]? = some t → args[j]? = some v → Value.okWide Tryz.prog W .any base t v := hval0
  have hW' := hW
  obtain ⟨p, q, hA0, hV, rfl, hfz, hnd⟩ := hW
  have hA : DataW.TrodAll enc Tryz.prog W 0 (fun _ => true) true Tryz.f5.params.toList args.toList ds p := hA0
  rw [Tryz.params5] at hA hval
  obtain ⟨v0, vs0, d0, ds0, p0, q0, hargs, rfl, rfl, h0, r0⟩ := trodAll_cons hA
  obtain ⟨v1, vs1, d1, ds1, p1, q1, rfl, rfl, rfl, h1, r1⟩ := trodAll_cons r0
  obtain ⟨v2, vs2, d2, ds2, p2, q2, rfl, rfl, rfl, h2, r2⟩ := trodAll_cons r1
  obtain ⟨rfl, rfl, rfl⟩ := trodAll_nil r2
  obtain rfl : args = #[v0, v1, v2] := by cases args; simp_all
  obtain ⟨rfl, rfl⟩ := trodVars_none hV
  have k0 := h0
  have lt0 : ∀ x ∈ p0, x.block < W.heap.size := by obtain ⟨m, hm⟩ := k0; exact DataW.trod_lt m _ _ _ hm
  obtain ⟨a0, n0, cap0, b0, m0, bap0, C0, L0, rfl, hv0, hcp0, hcm0⟩ := open_repoV (hval 0 35 v0 rfl rfl) h0
  have k1 := h1
  have lt1 : ∀ x ∈ p1, x.block < W.heap.size := by obtain ⟨m, hm⟩ := k1; exact DataW.trod_lt m _ _ _ hm
  obtain ⟨x1, a1, m1, cap1, rfl, hrc1, hl1, hm1, ho1, ht1⟩ := open_act (hval 1 30 v1 rfl rfl) h1
  obtain ⟨a2, len2, cap2, rfl⟩ := okWide_slice Tryz.underlying47 (hval 2 47 v2 rfl rfl)
  have k2 := h2
  have lt2 : ∀ x ∈ p2, x.block < W.heap.size := by obtain ⟨m, hm⟩ := k2; exact DataW.trod_lt m _ _ _ hm
  obtain ⟨l2, hrd2, hl2, hm2, hnil2⟩ : ∃ l, Rd W a2 len2 l ∧ len2 ≤ cap2 ∧ cap2 ≤ maxLen ∧ (a2 = none → len2 = 0 ∧ cap2 = 0) := by
    obtain ⟨fuel, hf⟩ := h2
    exact open_rows (by simpa [Value.cells] using hf)
  clear hA0 hval0
  refine (restRepos_walk a0 n0 cap0 C0 b0 m0 bap0 L0 x1 a1 m1 cap1 a2 len2 cap2 l2 W hv0 hcp0 hcm0 hrc1 (by unfold maxLen at hm1; omega) (by unfold maxLen at ho1; omega) ⟨hrd2, hl2, hm2, hnil2⟩).mono fun e W' ⟨he, bel⟩ => ?_
  subst he
  exact ⟨_, rfl, _, _, _, [], _, [], hW', trodAll_mk1 (shut_bool Tryz.underlying4 _), (trodAll_cons_mk (Below.trod laidTry (by kernel_rfl) (of_decide_eq_true (by kernel_rfl)) k0 bel lt0) (trodAll_cons_mk (Below.trod laidTry (by kernel_rfl) (of_decide_eq_true (by kernel_rfl)) k1 bel lt1) (trodAll_cons_mk (Below.trod laidTry (by kernel_rfl) (of_decide_eq_true (by kernel_rfl)) k2 bel lt2) trodAll_mk0))), rfl, bel.frame _, fun h => by cases h⟩
theorem restRepos_holds : Rows.RestReposSaid :=
  OpenClaim.holds_of_wide 5 Tryz.f5 rfl rfl rfl rfl rfl rfl rfl ⟨rfl, rfl, rfl, rfl, rfl⟩ rfl rfl rfl rfl rfl (by kernel_rfl) Tryz.func5 (by kernel_rfl)
    (of_decide_eq_true (by kernel_rfl)) (by unfold Func.isWrapper; first | (rw [if_pos (by decide +kernel)]; kernel_rfl) | (rw [if_neg (by decide +kernel)]; exact ⟨rfl, rfl⟩))
    (fun os started H enc _ => restRepos_lifted os started H enc)
#print axioms restRepos_holds
end Go.Proofs.YtcgpgflnihjpiagGreat
