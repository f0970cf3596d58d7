/- Plain facts on changes: right ones, laid on rows, and three ways. -/
import Derived.Test.YtcgpgflnihjpiacChgT
import Derived.Test.YtcgpgflnihjpiacTable
import Derived.Test.YtcgpgflnihjpiacMp
namespace Go.Proofs.Ytcgpgflnihjpiac.M

def cbad (ah : Int) (c : Chg) : Bool := decide (c.1 ≤ ah ∨ 99 < c.1 ∨ c.2.1 < -1 ∨ 996 < c.2.1 ∨ c.2.2 < -1 ∨ 996 < c.2.2 ∨ c.2.1 = c.2.2)
def fineF (ah : Int) : List Chg → Bool
  | [] => true
  | c :: t => !cbad ah c && fineF c.1 t
def fine (d : List Chg) : Bool := fineF (-1) d
theorem gdrop (l : List Chg) (k : Nat) (h : k < l.length) : l.drop k = l.getD k (0, 0, 0) :: l.drop (k + 1) := by
  rw [List.drop_eq_getElem_cons h]; simp [List.getD, h]
theorem gmem (l : List Chg) (k : Nat) (h : k < l.length) : l.getD k (0, 0, 0) ∈ l := by simp [List.getD, h]
theorem fineF_bad (ah : Int) (l : List Chg) (k : Nat) (h : k < l.length) (x y z : Int) (e : l.getD k (0, 0, 0) = (x, y, z)) (hb : x ≤ ah ∨ 99 < x ∨ y < -1 ∨ 996 < y ∨ z < -1 ∨ 996 < z ∨ y = z) : fineF ah (l.drop k) = false := by
  rw [gdrop l k h, e, fineF, cbad, decide_eq_true hb]; rfl
theorem fineF_good (ah : Int) (l : List Chg) (k : Nat) (h : k < l.length) (x y z : Int) (e : l.getD k (0, 0, 0) = (x, y, z)) (hb : ah < x ∧ x ≤ 99 ∧ -1 ≤ y ∧ y ≤ 996 ∧ -1 ≤ z ∧ z ≤ 996 ∧ y ≠ z) : fineF ah (l.drop k) = fineF x (l.drop (k + 1)) := by
  rw [gdrop l k h, e, fineF, cbad, decide_eq_false (by show ¬ (x ≤ ah ∨ 99 < x ∨ y < -1 ∨ 996 < y ∨ z < -1 ∨ 996 < z ∨ y = z); omega)]; rfl
theorem fineF_end (ah : Int) (l : List Chg) (k : Nat) (h : l.length ≤ k) : fineF ah (l.drop k) = true := by
  rw [List.drop_eq_nil_of_le h]; rfl
/-- What right changes are. -/
def Fine (ah : Int) (d : List Chg) : Prop := (∀ c ∈ d, ah < c.1 ∧ c.1 ≤ 99 ∧ -1 ≤ c.2.1 ∧ c.2.1 ≤ 996 ∧ -1 ≤ c.2.2 ∧ c.2.2 ≤ 996 ∧ c.2.1 ≠ c.2.2) ∧ d.Pairwise (fun a b => a.1 < b.1)
theorem fineF_iff (ah : Int) (d : List Chg) : fineF ah d = true ↔ Fine ah d := by
  unfold Fine
  induction d generalizing ah with
  | nil => simp [fineF]
  | cons c t ih =>
    rw [fineF, Bool.and_eq_true, ih]
    have hc : (!cbad ah c) = true ↔ ah < c.1 ∧ c.1 ≤ 99 ∧ -1 ≤ c.2.1 ∧ c.2.1 ≤ 996 ∧ -1 ≤ c.2.2 ∧ c.2.2 ≤ 996 ∧ c.2.1 ≠ c.2.2 := by
      unfold cbad
      rw [Bool.not_eq_true', decide_eq_false_iff_not]
      omega
    rw [hc]
    constructor
    · rintro ⟨h1, h2, h3⟩
      refine ⟨fun q hq => ?_, List.pairwise_cons.2 ⟨fun q hq => (h2 q hq).1, h3⟩⟩
      rcases List.mem_cons.1 hq with rfl | hq
      · exact h1
      · have := h2 q hq; omega
    · rintro ⟨h1, h2⟩
      have h3 := List.pairwise_cons.1 h2
      exact ⟨h1 c (by simp), fun q hq => ⟨h3.1 q hq, (h1 q (by simp [hq])).2⟩, h3.2⟩
theorem fine_iff (d : List Chg) : fine d = true ↔ Fine (-1) d := fineF_iff (-1) d
theorem Fine.len {ah : Int} {d : List Chg} (h : Fine ah d) (h0 : ah ≤ 99) : (d.length : Int) ≤ 99 - ah := by
  induction d generalizing ah with
  | nil => simp; omega
  | cons c t ih =>
    have hc := h.1 c (by simp)
    have h3 := List.pairwise_cons.1 h.2
    have := ih (ah := c.1) ⟨fun q hq => ⟨h3.1 q hq, (h.1 q (by simp [hq])).2⟩, h3.2⟩ hc.2.1
    rw [List.length_cons]
    omega

/-- Has one's key not its Old? -/
def clashF (l : List (Int × Int)) (d : List Chg) : Bool := d.any (fun c => decide (find c.1 l ≠ c.2.1))
/-- The table in which the changes are laid on another. -/
def tab (f : Int → Int) (d : List Chg) : Int → Int := d.foldl (fun f c k => if k = c.1 then c.2.2 else f k) f
theorem tab_snoc (f : Int → Int) (d : List Chg) (c : Chg) (k : Int) : tab f (d ++ [c]) k = if k = c.1 then c.2.2 else tab f d k := by
  unfold tab; rw [List.foldl_append]; rfl
theorem tab_none (f : Int → Int) (d : List Chg) (k : Int) (h : ∀ c ∈ d, c.1 ≠ k) : tab f d k = f k := by
  induction d generalizing f with
  | nil => rfl
  | cons c t ih =>
    have e : tab f (c :: t) k = tab (fun k => if k = c.1 then c.2.2 else f k) t k := rfl
    rw [e, ih _ fun q hq => h q (by simp [hq]), if_neg (fun e => h c (by simp) e.symm)]
theorem tab_mem (f : Int → Int) (d : List Chg) (hd : d.Pairwise (fun a b => a.1 < b.1)) (c : Chg) (hc : c ∈ d) : tab f d c.1 = c.2.2 := by
  induction d generalizing f with
  | nil => simp at hc
  | cons q t ih =>
    have e : tab f (q :: t) c.1 = tab (fun k => if k = q.1 then q.2.2 else f k) t c.1 := rfl
    have h2 := List.pairwise_cons.1 hd
    rw [e]
    rcases List.mem_cons.1 hc with rfl | hc
    · rw [tab_none _ t c.1 (fun r hr => by have := h2.1 r hr; omega), if_pos rfl]
    · exact ih _ h2.2 hc
theorem tab_cases (f : Int → Int) (d : List Chg) (hd : d.Pairwise (fun a b => a.1 < b.1)) (k : Int) : (∃ c ∈ d, c.1 = k ∧ tab f d k = c.2.2) ∨ ((∀ c ∈ d, c.1 ≠ k) ∧ tab f d k = f k) := by
  by_cases h : ∃ c ∈ d, c.1 = k
  · obtain ⟨c, hc, e⟩ := h
    exact Or.inl ⟨c, hc, e, by rw [← e]; exact tab_mem f d hd c hc⟩
  · exact Or.inr ⟨fun c hc e => h ⟨c, hc, e⟩, tab_none f d k fun c hc e => h ⟨c, hc, e⟩⟩

/-- The rows of a table. -/
def ofTab (f : Int → Int) : List (Int × Int) := foldTo (fun i => f (i : Int)) 100
theorem foldTo_congr (f g : Nat → Int) (n : Nat) (h : ∀ i, i < n → f i = g i) : foldTo f n = foldTo g n := by
  induction n with
  | zero => rfl
  | succ n ih => rw [foldTo, foldTo, h n (by omega), ih fun i hi => h i (by omega)]
theorem foldTo_mono (f g : Nat → Int) (n : Nat) (h : ∀ i, i < n → f i ≠ -1 → g i ≠ -1) : (foldTo f n).length ≤ (foldTo g n).length := by
  induction n with
  | zero => simp [foldTo]
  | succ n ih =>
    have i1 := ih fun i hi => h i (by omega)
    have i2 := h n (by omega)
    rw [foldTo, foldTo]
    by_cases e : f n = -1
    · rw [if_pos e]; split
      · exact i1
      · simp; omega
    · rw [if_neg e, if_neg (i2 e)]; simp; exact i1
theorem find_foldTo (f : Nat → Int) (n i : Nat) : find (i : Int) (foldTo f n) = if i < n then f i else -1 := by
  by_cases hi : i < n
  · rw [if_pos hi]
    by_cases hne : f i = -1
    · rw [hne]
      refine find_none _ _ fun r hr e => ?_
      obtain ⟨j, hj, hn, rfl⟩ := (mem_foldTo f n r).1 hr
      have : j = i := by have : (j : Int) = (i : Int) := e; omega
      subst this
      exact hn hne
    · exact find_mem _ _ (foldTo_pair f n) ((i : Int), f i) ((mem_foldTo f n _).2 ⟨i, hi, hne, rfl⟩) rfl
  · rw [if_neg hi]
    refine find_none _ _ fun r hr e => ?_
    obtain ⟨j, hj, hn, rfl⟩ := (mem_foldTo f n r).1 hr
    have : (j : Int) = (i : Int) := e
    omega
theorem ofTab_ok (f : Int → Int) (h : ∀ i : Nat, i < 100 → -1 ≤ f i ∧ f i ≤ 996) : Ok (ofTab f) := by
  refine ⟨fun r hr => ?_, foldTo_pair _ 100⟩
  obtain ⟨i, hi, hne, rfl⟩ := (mem_foldTo _ 100 r).1 hr
  have := h i hi
  refine ⟨by show 0 ≤ (i : Int); omega, by show (i : Int) ≤ 99; omega, ?_, this.2⟩
  show 0 ≤ f (i : Int)
  omega
theorem find_out {l : List (Int × Int)} (ok : Ok l) (k : Int) (h : k < 0 ∨ 99 < k) : find k l = -1 :=
  find_none k l fun r hr e => by have := ok.1 r hr; omega
/-- Rows are the rows of their own table. -/
theorem ofTab_self {R : List (Int × Int)} (ok : Ok R) (f : Int → Int) (hf : ∀ i : Nat, i < 100 → f i = find i R) : ofTab f = R := by
  have ok2 : Ok (ofTab f) := ofTab_ok f fun i hi => by rw [hf i hi]; exact find_range ok
  refine ext _ _ ok2 ok fun k => ?_
  by_cases hk : 0 ≤ k ∧ k ≤ 99
  · obtain ⟨i, rfl⟩ := Int.eq_ofNat_of_zero_le hk.1
    unfold ofTab
    rw [find_foldTo, if_pos (by omega), hf i (by omega)]
  · rw [find_out ok2 k (by omega), find_out ok k (by omega)]
theorem ofTab_congr (f g : Int → Int) (h : ∀ i : Nat, i < 100 → f i = g i) : ofTab f = ofTab g := foldTo_congr _ _ _ h
theorem find_ofTab (f : Int → Int) (i : Nat) (hi : i < 100) : find (i : Int) (ofTab f) = f i := by unfold ofTab; rw [find_foldTo, if_pos hi]

/-- The error of Patch, and its rows. -/
def patchE (l : List (Int × Int)) (d : List Chg) : Int :=
  if chk l ≠ 0 then chk l else if fine d = false then 1 else if clashF l d = true then 7 else if 40 < (ofTab (tab (fun k => find k l) d)).length then 2 else 0
def patchV (l : List (Int × Int)) (d : List Chg) : List (Int × Int) := if patchE l d = 0 then ofTab (tab (fun k => find k l) d) else []

/-- What goes, and what is put. -/
def gone (c : Chg) : Bool := decide (c.2.2 = -1)
def t1 (f : Int → Int) (d : List Chg) : Int → Int := tab f (d.filter gone)
theorem t1_le (f : Int → Int) (d e : List Chg) (hd : d.Pairwise (fun a b => a.1 < b.1)) (he : e.Sublist d) (k : Int) (h : tab (t1 f d) (e.filter (fun c => !gone c)) k ≠ -1) : tab f d k ≠ -1 := by
  have hdg : (d.filter gone).Pairwise (fun a b => a.1 < b.1) := hd.sublist List.filter_sublist
  have heg : (e.filter (fun c => !gone c)).Pairwise (fun a b => a.1 < b.1) := (hd.sublist he).sublist List.filter_sublist
  rcases tab_cases (t1 f d) _ heg k with ⟨c, hc, e1, e2⟩ | ⟨hno, e2⟩
  · have hcm := List.mem_filter.1 hc
    have hcd : c ∈ d := he.subset hcm.1
    rw [← e1, tab_mem f d hd c hcd]
    have := hcm.2
    unfold gone at this
    simpa using this
  · rw [e2] at h
    rcases tab_cases f _ hdg k with ⟨c, hc, e1, e3⟩ | ⟨hno2, e3⟩
    · have hg := (List.mem_filter.1 hc).2
      unfold gone at hg
      unfold t1 at h
      rw [e3] at h
      simp at hg
      exact absurd hg h
    · rcases tab_cases f d hd k with ⟨c, hc, e1, e4⟩ | ⟨_, e4⟩
      · rw [e4]
        intro hn
        exact hno2 c (List.mem_filter.2 ⟨hc, by unfold gone; simpa using hn⟩) e1
      · rw [e4]; unfold t1 at h; rw [e3] at h; exact h
theorem t1_all (f : Int → Int) (d : List Chg) (hd : d.Pairwise (fun a b => a.1 < b.1)) (k : Int) : tab (t1 f d) (d.filter (fun c => !gone c)) k = tab f d k := by
  have hdg : (d.filter gone).Pairwise (fun a b => a.1 < b.1) := hd.sublist List.filter_sublist
  have heg : (d.filter (fun c => !gone c)).Pairwise (fun a b => a.1 < b.1) := hd.sublist List.filter_sublist
  rcases tab_cases f d hd k with ⟨c, hc, e1, e2⟩ | ⟨hno, e2⟩
  · rw [e2]
    cases hg : gone c with
    | true =>
      have h1 : ∀ q ∈ d.filter (fun c => !gone c), q.1 ≠ k := fun q hq e => by
        have hq2 := List.mem_filter.1 hq
        have h3 := tab_mem f d hd q hq2.1
        have h4 := tab_mem f d hd c hc
        rw [e] at h3
        rw [e1] at h4
        have h5 : q.2.2 = c.2.2 := h3.symm.trans h4
        have h6 := hq2.2
        unfold gone at h6 hg
        rw [h5] at h6
        simp at h6 hg
        exact h6 hg
      rw [tab_none _ _ k h1, ← e1]
      exact tab_mem f _ hdg c (List.mem_filter.2 ⟨hc, hg⟩)
    | false =>
      rw [← e1]
      exact tab_mem _ _ heg c (List.mem_filter.2 ⟨hc, by simp [hg]⟩)
  · rw [e2, tab_none _ _ k (fun q hq => hno q (List.mem_filter.1 hq).1)]
    unfold t1
    exact tab_none _ _ k (fun q hq => hno q (List.mem_filter.1 hq).1)
theorem filter_take (d : List Chg) (p : Chg → Bool) (k : Nat) (h : k < d.length) : (d.take (k + 1)).filter p = (d.take k).filter p ++ if p (d.getD k (0, 0, 0)) = true then [d.getD k (0, 0, 0)] else [] := by
  rw [List.take_succ_eq_append_getElem h, List.filter_append]
  have e : d.getD k (0, 0, 0) = d[k] := by simp [List.getD, h]
  rw [e]
  cases hp : p d[k] <;> simp [hp]

/-! ### three ways -/
/-- What comes of a key. -/
def mval (x y z : Int) : Int := if y = z then y else if y = x then z else y
def mclash (x y z : Int) : Bool := decide (y ≠ z ∧ y ≠ x ∧ z ≠ x)
def mtab (b l m : List (Int × Int)) (k : Int) : Int := mval (find k b) (find k l) (find k m)
def mrows (b l m : List (Int × Int)) : List (Int × Int) := ofTab (mtab b l m)
def mkeys (b l m : List (Int × Int)) : List Int := sel (fun k => mclash (find k b) (find k l) (find k m)) 100
def mergeE (b l m : List (Int × Int)) : Int :=
  if chk b ≠ 0 then chk b else if chk l ≠ 0 then chk l else if chk m ≠ 0 then chk m else if 40 < (mrows b l m).length then 2 else 0

/-- What the second alone has changed. -/
def aloneC (b l m : List (Int × Int)) (x : Int) : Option Chg := if find x b = find x l then some (x, find x b, find x m) else none
def ckeys (b m : List (Int × Int)) : List Int := sel (fun k => decide (find k b ≠ find k m)) 100
def alone (b l m : List (Int × Int)) : List Chg := (ckeys b m).filterMap (aloneC b l m)
theorem mem_alone (b l m : List (Int × Int)) (c : Chg) : c ∈ alone b l m ↔ ∃ k : Nat, k < 100 ∧ find k b ≠ find k m ∧ find k b = find k l ∧ c = ((k : Int), find k b, find k m) := by
  unfold alone ckeys
  rw [List.mem_filterMap]
  constructor
  · rintro ⟨x, hx, hc⟩
    obtain ⟨k, h1, h2, rfl⟩ := (mem_sel _ _ _).1 hx
    unfold aloneC at hc
    split at hc
    · rename_i h3
      exact ⟨k, h1, by simpa using h2, h3, by simpa using hc.symm⟩
    · simp at hc
  · rintro ⟨k, h1, h2, h3, rfl⟩
    exact ⟨(k : Int), (mem_sel _ _ _).2 ⟨k, h1, by simpa using h2, rfl⟩, by unfold aloneC; rw [if_pos h3]⟩
theorem alone_rise (b l m : List (Int × Int)) : (alone b l m).Pairwise (fun a b => a.1 < b.1) := by
  unfold alone
  rw [List.pairwise_filterMap]
  refine (sel_rise _ 100).imp fun {x y} hxy p hp q hq => ?_
  unfold aloneC at hp hq
  split at hp <;> split at hq <;> simp at hp hq
  subst hp hq
  exact hxy
theorem alone_fine {b l m : List (Int × Int)} (hb : Ok b) (hm : Ok m) : Fine (-1) (alone b l m) := by
  refine ⟨fun c hc => ?_, alone_rise b l m⟩
  obtain ⟨k, h1, h2, h3, rfl⟩ := (mem_alone b l m c).1 hc
  have r1 := find_range (key := (k : Int)) hb
  have r2 := find_range (key := (k : Int)) hm
  exact ⟨by show -1 < (k : Int); omega, by show (k : Int) ≤ 99; omega, r1.1, r1.2, r2.1, r2.2, h2⟩
theorem alone_clash (b l m : List (Int × Int)) : clashF l (alone b l m) = false := by
  unfold clashF
  rw [List.any_eq_false]
  intro c hc
  obtain ⟨k, h1, h2, h3, rfl⟩ := (mem_alone b l m c).1 hc
  simp [h3]
theorem alone_tab (b l m : List (Int × Int)) (k : Nat) (hk : k < 100) : tab (fun x => find x l) (alone b l m) (k : Int) = mtab b l m k := by
  unfold mtab mval
  rcases tab_cases (fun x => find x l) _ (alone_rise b l m) (k : Int) with ⟨c, hc, e1, e2⟩ | ⟨hno, e2⟩
  · obtain ⟨j, h1, h2, h3, rfl⟩ := (mem_alone b l m c).1 hc
    have : (j : Int) = (k : Int) := e1
    have : j = k := by omega
    subst this
    rw [e2, if_neg (by omega), if_pos h3.symm]
  · rw [e2]
    by_cases h1 : find (k : Int) l = find (k : Int) m
    · rw [if_pos h1]
    · rw [if_neg h1]
      by_cases h2 : find (k : Int) l = find (k : Int) b
      · exact absurd rfl (hno _ ((mem_alone b l m _).2 ⟨k, hk, by omega, h2.symm, rfl⟩))
      · rw [if_neg h2]
theorem alone_patch {b l m : List (Int × Int)} (hb : chk b = 0) (hl : chk l = 0) (hm : chk m = 0) : patchE l (alone b l m) = mergeE b l m ∧ ofTab (tab (fun k => find k l) (alone b l m)) = mrows b l m := by
  have e : ofTab (tab (fun k => find k l) (alone b l m)) = mrows b l m := ofTab_congr _ _ fun i hi => alone_tab b l m i hi
  refine ⟨?_, e⟩
  unfold patchE mergeE
  rw [e, hl, hb, hm, (fine_iff _).2 (alone_fine ((chk_zero b).1 hb).2 ((chk_zero m).1 hm).2), alone_clash]
  simp
/-- What clashes is among what the second has changed. -/
theorem ckeys_filter (b l m : List (Int × Int)) (n : Nat) : (sel (fun k => decide (find (k : Int) b ≠ find (k : Int) m)) n).filter (fun x => mclash (find x b) (find x l) (find x m)) = sel (fun k => mclash (find k b) (find k l) (find k m)) n := by
  induction n with
  | zero => rfl
  | succ n ih =>
    rw [sel, sel]
    by_cases h : find (n : Int) b ≠ find (n : Int) m
    · rw [if_pos (by simpa using h), List.filter_append, ih]
      cases hc : mclash (find (n : Int) b) (find (n : Int) l) (find (n : Int) m)
      · rw [if_neg (by simp)]; simp [hc]
      · rw [if_pos rfl]; simp [hc]
    · rw [if_neg (by simpa using h), ih, if_neg]
      unfold mclash
      simp at h ⊢
      omega
end Go.Proofs.Ytcgpgflnihjpiac.M
