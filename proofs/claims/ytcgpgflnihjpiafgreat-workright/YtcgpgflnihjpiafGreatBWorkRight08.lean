/- The library's slices.SortFunc at heads stands in this program as it stands on the shelf. -/
import Derived.Test.YtcgpgflnihjpiafGreatChecked
import Derived.Shelf.SlSortCmp.SmallK
import Derived.Test.YtcgpgflnihjpiafGreatBWorkRight07
import Derived.Lib.RowBridge
import Derived.Test.YtcgpgflnihjpiafGreatBWorkRight02
import Derived.Test.YtcgpgflnihjpiafGreatBWorkRight01
import Derived.Test.YtcgpgflnihjpiafGreatBWorkRight03
namespace Go.Proofs.YtcgpgflnihjpiafGreat
open Go.Shelf

def sortH_ren : Go.Shelf.Ren := ⟨fun | 6 => 77 | 15 => 115 | 14 => 114 | 28 => 139 | 29 => 140 | 20 => 131 | 21 => 132 | 22 => 133 | 23 => 134 | 24 => 135 | 25 => 136 | 26 => 137 | 27 => 138 | 46 => 151 | 47 => 152 | 48 => 153 | 49 => 154 | 50 => 155 | 57 => 161 | n => n, fun | 22 => 23 | 24 => 71 | 25 => 118 | 3 => 3 | 39 => 154 | 0 => 0 | 53 => 180 | 55 => 182 | 4 => 4 | 46 => 173 | 45 => 172 | 50 => 177 | 5 => 5 | 9 => 9 | 66 => 189 | 70 => 193 | 76 => 199 | 77 => 200 | n => n, fun | n => n⟩
theorem sortH : Go.Proofs.SlLaysF0.n6 Tryz.prog sortH_ren := {
  mixed := by kernel_rfl,
  f6 := ⟨Tryz.f77.name, by decide, Tryz.func77.trans (congrArg some (by kernel_rfl))⟩,
  f14 := ⟨Tryz.f114.name, by decide, Tryz.func114.trans (congrArg some (by kernel_rfl))⟩,
  f15 := Tryz.func115.trans (congrArg some (by kernel_rfl)),
  f20 := ⟨Tryz.f131.name, by decide, Tryz.func131.trans (congrArg some (by kernel_rfl))⟩,
  f21 := ⟨Tryz.f132.name, by decide, Tryz.func132.trans (congrArg some (by kernel_rfl))⟩,
  f22 := ⟨Tryz.f133.name, by decide, Tryz.func133.trans (congrArg some (by kernel_rfl))⟩,
  f23 := ⟨Tryz.f134.name, by decide, Tryz.func134.trans (congrArg some (by kernel_rfl))⟩,
  f24 := ⟨Tryz.f135.name, by decide, Tryz.func135.trans (congrArg some (by kernel_rfl))⟩,
  f25 := ⟨Tryz.f136.name, by decide, Tryz.func136.trans (congrArg some (by kernel_rfl))⟩,
  f26 := ⟨Tryz.f137.name, by decide, Tryz.func137.trans (congrArg some (by kernel_rfl))⟩,
  f27 := ⟨Tryz.f138.name, by decide, Tryz.func138.trans (congrArg some (by kernel_rfl))⟩,
  f28 := Tryz.func139.trans (congrArg some (by kernel_rfl)),
  f29 := Tryz.func140.trans (congrArg some (by kernel_rfl)),
  f46 := ⟨Tryz.f151.name, by decide, Tryz.func151.trans (congrArg some (by kernel_rfl))⟩,
  f47 := Tryz.func152.trans (congrArg some (by kernel_rfl)),
  f48 := Tryz.func153.trans (congrArg some (by kernel_rfl)),
  f49 := ⟨Tryz.f154.name, by decide, Tryz.func154.trans (congrArg some (by kernel_rfl))⟩,
  f50 := ⟨Tryz.f155.name, by decide, Tryz.func155.trans (congrArg some (by kernel_rfl))⟩,
  f57 := ⟨Tryz.f161.name, by decide, Tryz.func161.trans (congrArg some (by kernel_rfl))⟩,
  t0 := Tryz.underlying0,
  a0 := Tryz.isAgg0,
  z0 := Tryz.sizeOf0,
  v0 := Tryz.zeroValue0,
  t3 := Tryz.underlying3,
  a3 := Tryz.isAgg3,
  z3 := Tryz.sizeOf3,
  v3 := Tryz.zeroValue3,
  t4 := Tryz.underlying4,
  a4 := Tryz.isAgg4,
  z4 := Tryz.sizeOf4,
  v4 := Tryz.zeroValue4,
  t5 := Tryz.underlying5,
  a5 := Tryz.isAgg5,
  z5 := Tryz.sizeOf5,
  v5 := Tryz.zeroValue5,
  t9 := Tryz.underlying9,
  a9 := Tryz.isAgg9,
  z9 := Tryz.sizeOf9,
  v9 := Tryz.zeroValue9,
  t22 := Tryz.underlying23,
  a22 := Tryz.isAgg23,
  z22 := Tryz.sizeOf23,
  v22 := Tryz.zeroValue23,
  t25 := Tryz.underlying118,
  a25 := Tryz.isAgg118,
  z25 := Tryz.sizeOf118,
  v25 := Tryz.zeroValue118,
  t39 := Tryz.underlying154,
  a39 := Tryz.isAgg154,
  z39 := Tryz.sizeOf154,
  v39 := Tryz.zeroValue154,
  t45 := Tryz.underlying172,
  a45 := Tryz.isAgg172,
  z45 := Tryz.sizeOf172,
  v45 := Tryz.zeroValue172,
  t46 := Tryz.underlying173,
  a46 := Tryz.isAgg173,
  z46 := Tryz.sizeOf173,
  v46 := Tryz.zeroValue173,
  t50 := Tryz.underlying177,
  a50 := Tryz.isAgg177,
  z50 := Tryz.sizeOf177,
  v50 := Tryz.zeroValue177,
  t53 := Tryz.underlying180,
  a53 := Tryz.isAgg180,
  z53 := Tryz.sizeOf180,
  v53 := Tryz.zeroValue180,
  t55 := Tryz.underlying182,
  a55 := Tryz.isAgg182,
  z55 := Tryz.sizeOf182,
  v55 := Tryz.zeroValue182,
  t66 := Tryz.underlying189,
  a66 := Tryz.isAgg189,
  z66 := Tryz.sizeOf189,
  v66 := Tryz.zeroValue189,
  t70 := Tryz.underlying193,
  a70 := Tryz.isAgg193,
  z70 := Tryz.sizeOf193,
  v70 := Tryz.zeroValue193,
  t76 := Tryz.underlying199,
  a76 := Tryz.isAgg199,
  z76 := Tryz.sizeOf199,
  v76 := Tryz.zeroValue199,
  t77 := Tryz.underlying200,
  a77 := Tryz.isAgg200,
  z77 := Tryz.sizeOf200,
  v77 := Tryz.zeroValue200 }
end Go.Proofs.YtcgpgflnihjpiafGreat

/- slices.SortFunc at heads that rise, but for the last. -/
namespace Go.Proofs.YtcgpgflnihjpiafGreat
open Go.RowKit Go.Shelf Go.Sort

set_option maxHeartbeats 4000000 in
set_option maxRecDepth 100000 in
theorem len64_few (x : Int) (w : World) (h0 : 0 ≤ x) (h1 : x ≤ 12) :
    Calls Tryz.prog 140 #[.int .u64 x] w fun e w' => (∃ l : Int, e = .returned (.int .i64 l)) ∧ w' = w := by
  have hz : Lib.len8tab.size = 256 := by kernel_rfl
  have g1 : ¬ (4294967296 : Int) ≤ x := by omega
  have g2 : ¬ (65536 : Int) ≤ x := by omega
  have g3 : ¬ (256 : Int) ≤ x := by omega
  have g4 : x < (Lib.len8tab.size : Int) := by rw [hz]; omega
  go_enter Tryz.func140, Tryz.ntmps140
  go_wp2
  all_goals (go_ret; exact ⟨⟨_, rfl⟩, rfl⟩)
theorem len_few (n : Nat) (w : World) (hn : n ≤ 12) :
    Calls Tryz.prog 115 #[.int .u64 n] w fun e w' => (∃ l : Int, e = .returned (.int .i64 l)) ∧ w' = w := by
  obtain ⟨x, hx⟩ : ∃ x : Int, x = n := ⟨_, rfl⟩
  have h0 : 0 ≤ x := by omega
  have h1 : x ≤ 12 := by omega
  rw [← hx]
  clear hx hn
  go_enter Tryz.func115, Tryz.ntmps115
  go_wp2_with (go_at_call 140; refine (len64_few x _ h0 h1).mono ?_; rintro e w' ⟨⟨l, rfl⟩, rfl⟩)
  go_ret
  exact ⟨⟨_, rfl⟩, rfl⟩

def encA (h : M.Hd) : List Value := [.string h.1, .int .i64 h.2]
theorem flat_encH (l : List M.Hd) : (flatK encA 2 l.toArray).toList = encH l := by
  apply List.ext_getElem?
  intro t
  by_cases h : t < l.length * 2
  · have e1 : (flatK encA 2 l.toArray).toList[t]? = some ((encA (l.getD (t / 2) M.hd0))[t % 2]!) := by
      have h2 : t / 2 < l.length := by omega
      rw [Array.getElem?_toList, Array.getElem?_eq_getElem (by simpa using h)]
      congr 1
      have := get_flatK encA 2 l.toArray t (by simpa using h)
      rw [getElem!_pos _ t (by simpa using h)] at this
      rw [this]
      simp [List.getD, h2]
    rw [e1]
    rcases Nat.mod_two_eq_zero_or_one t with h0 | h1
    · rw [h0]
      obtain ⟨i, rfl⟩ : ∃ i, t = i * 2 := ⟨t / 2, by omega⟩
      rw [encH_name l i (by omega), show i * 2 / 2 = i by omega]
      rfl
    · rw [h1]
      obtain ⟨i, rfl⟩ : ∃ i, t = i * 2 + 1 := ⟨t / 2, by omega⟩
      rw [encH_at l i (by omega), show (i * 2 + 1) / 2 = i by omega]
      rfl
  · rw [List.getElem?_eq_none (by simp; omega), List.getElem?_eq_none (by rw [encH_length]; omega)]

theorem OwnH.holds {w : World} {base g n cap : Nat} {H : List M.Hd} (h : OwnH w base (.slice (some ⟨g, 0, none⟩) n cap) H) : HoldsK encA 2 w g 0 H.toArray := by
  intro j hj
  simp only [size_flatK] at hj
  rw [Nat.zero_add]
  refine h.cellsAt j _ ?_
  rw [← flat_encH, Array.getElem?_toList, Array.getElem?_eq_getElem (by simpa using hj), getElem!_pos _ j (by simpa using hj)]
  rfl

theorem hsort_any (base g cap : Nat) (H : List M.Hd) (x : M.Hd) (w : World) (hH : OwnH w base (.slice (some ⟨g, 0, none⟩) (H ++ [x]).length cap) (H ++ [x])) (hcp : (H ++ [x]).length ≤ cap) (hr : M.rise H = true) (h1 : 1 ≤ H.length) (h3 : H.length ≤ 3) :
    Calls Tryz.prog 77 #[.slice (some ⟨g, 0, none⟩) (H ++ [x]).length cap, .func (.func 78) #[] #[]] w fun e w' => e = .returned (.tuple #[]) ∧ OwnH w' base (.slice (some ⟨g, 0, none⟩) (H ++ [x]).length cap) (M.insH x H) ∧ w.grownBy w' (some g) := by
  have hblk : g < w.heap.size := World.block_lt_of_cell? w ⟨g, 0, none⟩ (hH.cellsAt 0 _ (List.getElem?_eq_getElem (by rw [encH_length]; simp))).1
  have hcmp : CmpLays Tryz.prog 78 #[] encA 2 M.cmpH g 0 (H ++ [x]).toArray.size w := by
    intro m os dk _ u v
    refine (branch4_any u v _).mono ?_
    rintro e w' ⟨rfl, rfl⟩
    refine ⟨rfl, 0, #[.cells #[.string u.1, .int .i64 u.2] 71, .cells #[.string v.1, .int .i64 v.2] 71], ?_⟩
    rw [alloc_eq_grow, alloc_eq_grow, grow_grow]
    rfl
  have K := AnyQ.slices_SortFunc_small sortH 2 (fun w => by kernel_rfl) (fun w => by kernel_rfl) encA (fun _ => rfl) (fun u v hv => by simp [encA] at hv; rcases hv with rfl | rfl <;> rfl) M.cmpH 78 #[] g 0 cap (H ++ [x]).toArray w (enters_of Tryz.func78 (by kernel_rfl) rfl) hcmp hH.holds hblk (by simp; omega) (fun n W hn => len_few n W hn)
  rw [M.ins_all H x hr h1 h3] at K
  have hins := M.insH_len x H
  refine K.mono ?_
  rintro e w' ⟨rfl, n, os, rfl⟩
  refine ⟨rfl, ?_⟩
  unfold sortWorldK putRowK
  have hys := Lib.putRow_eq_setCells id w g 0 (flatK encA 2 (H ++ [x]).toArray) (encH (M.insH x H)) n hH.holds (by rw [encH_length]; simp; omega)
  rw [← flat_encH, List.map_id, Array.toArray_toList] at hys
  rw [hys]
  have e1 : OwnH ((w.drewN n).setCells g 0 (flatK encA 2 (M.insH x H).toArray).toList) base (.slice (some ⟨g, 0, none⟩) (H ++ [x]).length cap) (M.insH x H) := by
    refine OwnH.laid (hH.later (show Below w.heap.size w (w.drewN n) from ⟨rfl, rfl, rfl, Nat.le_refl _, fun _ _ => rfl⟩)) 0 _ _ (by rw [hins]; simp) hcp ?_ ?_ ?_
    · rw [flat_encH, encH_length, hins]; simp at hcp; omega
    · intro cur hcl hcx
      rw [flat_encH, List.take_zero, List.nil_append, List.take_append_of_le_length (by rw [encH_length]; omega), ← encH_length, List.take_length]
    · intro y hy
      rcases (M.insH_mem x H y).1 hy with rfl | hy
      · exact hH.2 _ (by simp)
      · exact hH.2 _ (by simp [hy])
  refine ⟨e1.later ?_, ?_⟩
  · exact ⟨rfl, rfl, rfl, by simp, fun k hk => by simp only [grow]; rw [Array.getElem?_append_left hk]⟩
  · have e2 : w.grownBy (w.drewN n) (some g) := ⟨rfl, rfl, rfl, Nat.le_refl _, fun _ _ _ => rfl⟩
    have e3 := e2.trans (grownBy_setCells (w.drewN n) g (flatK encA 2 (M.insH x H).toArray).toList 0)
    exact e3.trans ⟨rfl, rfl, rfl, by simp, fun k hk _ => by simp only [grow]; rw [Array.getElem?_append_left hk]⟩
end Go.Proofs.YtcgpgflnihjpiafGreat

/- work.Branch. -/
namespace Go.Proofs.YtcgpgflnihjpiafGreat
open Go.RowKit Go.Shelf Go.Maps

/-- The error of Branch. -/
def M.brE (C : List M.Com) (H : List M.Hd) (s t : ByteArray) : Int :=
  if M.hchk C H t ≠ 0 then M.hchk C H t else if M.nam s = false then 4 else if 0 ≤ M.plc H s then 6 else if 4 ≤ H.length then 2 else 0
def M.brC (C : List M.Com) (H : List M.Hd) (s t : ByteArray) : List M.Com := if M.brE C H s t = 0 then C else []
def M.brH (C : List M.Com) (H : List M.Hd) (s t : ByteArray) : List M.Hd := if M.brE C H s t = 0 then M.insH (s, M.hat C H t) H else []

theorem wbranch2_any (db nb D base : Nat) (C : List M.Com) (H : List M.Hd) (A : List Int) (s : ByteArray) (w : World) (hl : w.cell? ⟨db, 0, none⟩ = some (.pointer (some ⟨D, 0, none⟩))) (hn : w.cell? ⟨nb, 0, none⟩ = some (.string s)) (hD : DeskAt w base D C H A) :
    Calls Tryz.prog 74 #[.pointer (some ⟨db, 0, none⟩), .pointer (some ⟨nb, 0, none⟩)] w fun e w' => e = .returned (.bool (decide (0 ≤ M.plc H s))) ∧ Below w.heap.size w w' := by
  have HK : Hid (Calls Tryz.prog 75 #[.pointer (some ⟨D, 0, none⟩), .string s] w fun e w' => e = .returned (.int .i64 (M.plc H s)) ∧ Below w.heap.size w w') := dplace_any D base C H A s w hD
  go_enter Tryz.func74, Tryz.ntmps74
  go_wp2_with fail
  refine HK.out.mono ?_
  rintro e w1 ⟨rfl, hb1⟩
  go_wp2
  go_ret
  exact ⟨rfl, hb1⟩
theorem wbranch3_any (db D n cap : Nat) (x : Option Addr) (w : World) (hl : w.cell? ⟨db, 0, none⟩ = some (.pointer (some ⟨D, 0, none⟩))) (hx : w.cell? ⟨D, 1, none⟩ = some (.slice x n cap)) :
    Calls Tryz.prog 76 #[.pointer (some ⟨db, 0, none⟩)] w fun e w' => e = .returned (.bool (decide (4 ≤ n))) ∧ Below w.heap.size w w' := by
  go_enter Tryz.func76, Tryz.ntmps76
  go_wp2
  go_ret
  exact ⟨ret_bool (by rw [Bool.eq_iff_iff]; simp; omega), Below.refl _ _⟩
theorem wbranch1_any (ab : Nat) (a : Option Addr) (n cap : Nat) (C : List M.Com) (a2 : Option Addr) (n2 cap2 : Nat) (H : List M.Hd) (w : World) (h0 : w.cell? ⟨ab, 0, none⟩ = some (.slice a n cap)) (h1 : w.cell? ⟨ab, 1, none⟩ = some (.slice a2 n2 cap2)) (hC : Cm w a n C) (hn : n ≤ 9223372036854775807) (hH : Hs w a2 n2 H) (hn2 : n2 ≤ 9223372036854775807) :
    Calls Tryz.prog 73 #[.pointer (some ⟨ab, 0, none⟩)] w fun e w' => e = .returned (.bool (decide (M.rchk C H = 4))) ∧ Below w.heap.size w w' := by
  have HK : Hid (Calls Tryz.prog 11 #[.agg #[.slice a n cap, .slice a2 n2 cap2]] w fun e w' => e = .returned (.int .i64 (M.rchk C H)) ∧ Below w.heap.size w w') := rcheck_any a n cap C a2 n2 cap2 H w hC hn hH hn2
  obtain ⟨c, hc⟩ : ∃ c, M.rchk C H = c := ⟨_, rfl⟩
  rw [hc] at HK
  rw [hc]
  clear hC hH hc
  go_enter Tryz.func73, Tryz.ntmps73
  go_wp2_with fail
  refine HK.out.mono ?_
  rintro e w1 ⟨rfl, hb1⟩
  go_wp2
  go_ret
  exact ⟨ret_bool (by rw [Bool.eq_iff_iff]; simp), hb1⟩

theorem M.rchk_one (C : List M.Com) (s : ByteArray) (x : Nat) (h : M.dchk C = 0) (hx : x < C.length) : decide (M.rchk C [(s, (x : Int))] = 4) = !M.nam s := by
  unfold M.rchk
  rw [if_neg (by rw [h]; simp), if_neg (by simp)]
  cases hn : M.nam s with
  | false => simp [M.named, hn]
  | true =>
    rw [if_neg (by simp [M.named, hn]), if_neg (by simp [M.inside, hx]), if_neg (by simp [M.rise, M.riseF])]
    rfl
theorem M.brE_first {C : List M.Com} {H : List M.Hd} {s t : ByteArray} {f1 f2 f3 : Nat} {c1 c2 c3 : List Value} (hz : M.hchk C H t = 0) {c : Int} (hc : c = firstE [⟨4, f1, c1, !M.nam s⟩, ⟨6, f2, c2, decide (0 ≤ M.plc H s)⟩, ⟨2, f3, c3, decide (4 ≤ H.length)⟩]) : M.brE C H s t = c ∧ (c = 0 → H.length < 4) := by
  unfold M.brE
  rw [if_neg (by rw [hz]; simp), hc]
  cases hn : M.nam s with
  | false => simp [firstE]
  | true =>
    by_cases h1 : 0 ≤ M.plc H s
    · simp [firstE, h1]
    · by_cases h2 : 4 ≤ H.length
      · simp [firstE, h1, h2]
      · simp [firstE, h1, h2]; omega
/-- Two blocks more: a head, and a repo that has it alone. -/
structure Bz (w V : World) (ha ab : Nat) (s : ByteArray) (x : Int) (cv : Value) : Prop where
  bel : Below w.heap.size w V
  a : V.heap[ha]? = some (.cells #[.string s, .int .i64 x] 71 (0, 0))
  b : V.heap[ab]? = some (.cells #[cv, .slice (some ⟨ha, 0, none⟩) 1 1] 25 (0, 0))
  la : w.heap.size ≤ ha
  lb : w.heap.size ≤ ab
theorem Bz.one (w : World) (s : ByteArray) (x : Int) (cv : Value) : Bz w ((w.alloc (.cells #[.string s, .int .i64 x] 71)).alloc (.cells #[cv, .slice (some ⟨w.heap.size, 0, none⟩) 1 1] 25)).drew w.heap.size (w.heap.size + 1) s x cv := by
  refine ⟨(((Below.refl _ _).alloc (Nat.le_refl _) _).alloc (by simp) _).drew, ?_, ?_, Nat.le_refl _, by omega⟩
  · show ((w.alloc _).alloc _).heap[w.heap.size]? = _
    rw [Below.heap_alloc _ _ _ (by simp)]
    exact heap_alloc_new _ _
  · show ((w.alloc _).alloc _).heap[w.heap.size + 1]? = _
    rw [show w.heap.size + 1 = (w.alloc (.cells #[.string s, .int .i64 x] 71)).heap.size by simp]
    exact heap_alloc_new _ _
theorem Bz.two (w : World) (s : ByteArray) (x : Int) (cv : Value) : Bz w ((w.alloc (.cells #[cv, .slice (some ⟨w.heap.size + 1, 0, none⟩) 1 1] 25)).alloc (.cells #[.string s, .int .i64 x] 71)).drew (w.heap.size + 1) w.heap.size s x cv := by
  refine ⟨(((Below.refl _ _).alloc (Nat.le_refl _) _).alloc (by simp) _).drew, ?_, ?_, by omega, Nat.le_refl _⟩
  · have e := heap_alloc_new (w.alloc (.cells #[cv, .slice (some ⟨w.heap.size + 1, 0, none⟩) 1 1] 25)) (.cells #[.string s, .int .i64 x] 71)
    rw [show (w.alloc (.cells #[cv, .slice (some ⟨w.heap.size + 1, 0, none⟩) 1 1] 25)).heap.size = w.heap.size + 1 by simp] at e
    exact e
  · show ((w.alloc _).alloc _).heap[w.heap.size]? = _
    rw [Below.heap_alloc _ _ _ (by simp)]
    exact heap_alloc_new _ _

set_option maxRecDepth 100000 in
set_option maxHeartbeats 16000000 in
theorem wbranch_any (a : Option Addr) (n cap : Nat) (C : List M.Com) (a2 : Option Addr) (n2 cap2 : Nat) (H : List M.Hd) (s t : ByteArray) (w : World) (hV : RepoV w a n cap C a2 n2 cap2 H) (hss : s.size ≤ 9223372036854775807) :
    Calls Tryz.prog 28 #[.agg #[.slice a n cap, .slice a2 n2 cap2], .string s, .string t] w fun e w' => ∃ v, e = .returned (.tuple #[v, .int .i64 (M.brE C H s t)]) ∧ RepoOwn w' w.heap.size v (M.brC C H s t) (M.brH C H s t) ∧ Below w.heap.size w w' := by
  obtain ⟨p, hp⟩ : ∃ p, p = w.heap.size := ⟨_, rfl⟩
  obtain ⟨W, hW⟩ : ∃ W, W = (((w.alloc (.cells #[.slice a n cap, .slice a2 n2 cap2] 25)).alloc (.cells #[.string s] 9)).alloc (.cells #[.slice none 0 0, .slice none 0 0] 25)).alloc (.cells #[.string t] 9) := ⟨_, rfl⟩
  have hb : Below w.heap.size w W := by rw [hW]; exact ((((Below.refl _ _).alloc (Nat.le_refl _) _).alloc (by simp) _).alloc (by simp; omega) _).alloc (by simp; omega) _
  obtain ⟨R, hR⟩ : ∃ R, R = p + 1 + 1 := ⟨_, rfl⟩
  have hsz : W.heap.size = R + 2 := by rw [hW, hR, hp]; simp
  have q1 : W.cell? ⟨p + 1, 0, none⟩ = some (.string s) := by rw [hW, hp]; simp [go_sem]
  have q2 : W.heap[R]? = some (.cells #[.slice none 0 0, .slice none 0 0] 25 (0, 0)) := by
    rw [hW, Below.heap_alloc _ _ _ (by simp; omega), show R = ((w.alloc (.cells #[.slice a n cap, .slice a2 n2 cap2] 25)).alloc (.cells #[.string s] 9)).heap.size by rw [hR, hp]; simp]
    exact heap_alloc_new _ _
  have hNs : Ns W (R + 1) 1 [t] := ⟨rfl, by omega, fun i hi => by
    obtain rfl : i = 0 := by omega
    rw [hW, hR, hp]; simp [go_sem]⟩
  have KO := open_any a n cap C a2 n2 cap2 H (R + 1) 1 [t] W (hV.later hb) hNs (by omega) (by omega)
  have HO : Hid (Calls Tryz.prog 40 #[.agg #[.slice a n cap, .slice a2 n2 cap2], .slice (some ⟨R + 1, 0, none⟩) 1 1] W fun e w' => Below W.heap.size W w' ∧
      ((M.openE C H [t] ≠ 0 ∧ e = .returned (.tuple #[.pointer none, .int .i64 (M.openE C H [t])])) ∨ (M.openE C H [t] = 0 ∧ M.rchk C H = 0 ∧ ∃ D, e = .returned (.tuple #[.pointer (some ⟨D, 0, none⟩), .int .i64 0]) ∧ DeskAt w' W.heap.size D C H ([t].map (M.hat C H))))) := KO
  have eO : M.openE C H [t] = M.hchk C H t := by
    by_cases h : M.hchk C H t = 0
    · simp [M.openE, h]
    · simp [M.openE, h]
  rw [eO] at HO
  have HW : Hid (W = (((w.alloc (.cells #[.slice a n cap, .slice a2 n2 cap2] 25)).alloc (.cells #[.string s] 9)).alloc (.cells #[.slice none 0 0, .slice none 0 0] 25)).alloc (.cells #[.string t] 9)) := hW
  have HP : Aside (p = w.heap.size) := hp
  have HR : Aside (R = p + 1 + 1) := hR
  have hpR : p + 1 < R := by omega
  have HPR : Aside (w.heap.size ≤ p) := by unfold Aside; omega
  clear KO eO hW hp hV hNs hR
  go_enter Tryz.func28, Tryz.ntmps28
  go_wp2_with fail
  rw [← HW.out, ← HP.out, ← HR.out]
  refine HO.out.mono ?_
  rintro e w1 ⟨b1, hor⟩
  have hs1 := b1.size
  have hRl : R < w1.heap.size := by omega
  have r2 : w1.heap[R]? = some (.cells #[.slice none 0 0, .slice none 0 0] 25 (0, 0)) := (b1.block (R) (by omega)).trans q2
  have hbw : Below w.heap.size w w1 := hb.trans (b1.mono hb.size)
  rcases hor with ⟨hne0, rfl⟩ | ⟨hz, hr0, D, rfl, hD⟩
  · have E : Aside (M.brE C H s t = M.hchk C H t) := by unfold Aside M.brE; rw [if_pos hne0]
    have EC : Aside (M.brC C H s t = [] ∧ M.brH C H s t = []) := ⟨by unfold M.brC; rw [E.out, if_neg hne0], by unfold M.brH; rw [E.out, if_neg hne0]⟩
    obtain ⟨c, hc⟩ : ∃ c, c = M.hchk C H t := ⟨_, rfl⟩
    rw [← hc] at E hne0 ⊢
    have hne : (c != 0) = true := by simp [hne0]
    obtain ⟨g1, g2, g3⟩ := res_set r2 (.slice none 0 0) (.slice none 0 0)
    obtain ⟨Y, hY⟩ : ∃ Y, Y = (w1.setCell ⟨R, 0, none⟩ (.slice none 0 0)).setCell ⟨R, 1, none⟩ (.slice none 0 0) := ⟨_, rfl⟩
    rw [← hY] at g1 g3
    have bY : Below w.heap.size w Y := by rw [hY]; exact (hbw.setCell (p := ⟨R, 0, none⟩) (by show _ ≤ R; have := HPR.out; omega) _).setCell (p := ⟨R, 1, none⟩) (by show _ ≤ R; have := HPR.out; omega) _
    obtain ⟨X, hX⟩ : ∃ X, X = Y.alloc (.cells #[.pointer none] 78) := ⟨_, rfl⟩
    have bX : Below w.heap.size w X := by rw [hX]; exact bY.alloc bY.size _
    have gX : X.heap[R]? = some (.cells #[.slice none 0 0, .slice none 0 0] 25 (0, 0)) := by rw [hX, Below.heap_alloc _ _ _ (by omega)]; exact g1
    have HX9 : Hid (X = ((w1.setCell ⟨R, 0, none⟩ (.slice none 0 0)).setCell ⟨R, 1, none⟩ (.slice none 0 0)).alloc (.cells #[.pointer none] 78)) := by rw [← hY]; exact hX
    have HX0 : Aside (X.cell? ⟨R, 0, none⟩ = some (.slice none 0 0)) := by unfold Aside; rw [cell_of_row _ _ _ _ _ _ gX]; rfl
    have HX1 : Aside (X.cell? ⟨R, 1, none⟩ = some (.slice none 0 0)) := by unfold Aside; rw [cell_of_row _ _ _ _ _ _ gX]; rfl
    have x0 : w1.cell? ⟨R, 0, none⟩ = some (.slice none 0 0) := by rw [cell_of_row _ _ _ _ _ _ r2]; rfl
    have x1 : w1.cell? ⟨R, 1, none⟩ = some (.slice none 0 0) := by rw [cell_of_row _ _ _ _ _ _ r2]; rfl
    have f0 : w1.frozen? ⟨R, 0, none⟩ = false := frozen_of_row _ _ _ _ _ r2
    have f1 : w1.frozen? ⟨R, 1, none⟩ = false := frozen_of_row _ _ _ _ _ r2
    clear g1 g2 g3 hX gX hY bY r2 hne0 hc
    go_wp2
    rw [← HX9.out]
    have y0 := HX0.out
    have y1 := HX1.out
    refine bodyPost_ret (v := .tuple #[.agg #[.slice none 0 0, .slice none 0 0], .int .i64 c]) (by simp [results, Tryz.results28, go_sem, y0, y1]) rfl ?_
    refine ⟨_, ret_two' E.out.symm, ?_, bX⟩
    rw [EC.out.1, EC.out.2]; exact RepoOwn.none _ _
  · have hlen := M.rchk_zero hr0
    have hat := M.hat_in hz
    obtain ⟨x, hx⟩ : ∃ x : Nat, M.hat C H t = (x : Int) := ⟨(M.hat C H t).toNat, by omega⟩
    rw [hx] at hat
    have hxl : x < C.length := by omega
    have hDm : DeskAt w1 W.heap.size D C H [(x : Int)] := by have h := hD; simp only [List.map_cons, List.map_nil, hx] at h; exact h
    have hDl := hDm.lt
    have hDb : R + 2 ≤ D := by obtain ⟨_, _, _, _, h2, _⟩ := hDm; omega
    obtain ⟨db, hdb⟩ : ∃ db, db = w1.heap.size := ⟨_, rfl⟩
    obtain ⟨w2, hw2⟩ : ∃ w2, w2 = w1.alloc (.cells #[.pointer (some ⟨D, 0, none⟩)] 78) := ⟨_, rfl⟩
    have b2 : Below w1.heap.size w1 w2 := by rw [hw2]; exact (Below.refl _ _).alloc (Nat.le_refl _) _
    have hs2 : w2.heap.size = db + 1 := by rw [hw2, hdb]; simp
    have D2 : DeskAt w2 W.heap.size D C H [(x : Int)] := hDm.later b2
    have HD2 : Aside (DeskAt w2 W.heap.size D C H [(x : Int)]) := D2
    have blkd : w2.heap[db]? = some (.cells #[.pointer (some ⟨D, 0, none⟩)] 78 (0, 0)) := by rw [hw2, hdb]; exact heap_alloc_new _ _
    obtain ⟨vx, vy, vz, e1, _, e3, e4, e5⟩ := D2
    obtain ⟨zg, zc, rfl⟩ : ∃ zg zc, vz = .slice (some ⟨zg, 0, none⟩) 1 zc := by
      rcases e5.2 with ⟨_, e⟩ | ⟨g, cap, _, e, _⟩
      · simp at e
      · exact ⟨g, cap, e⟩
    obtain ⟨xa, xc, rfl, hcm, _, hxc1, hxc2, _⟩ := e3.cm
    have k0 : w2.cell? ⟨db, 0, none⟩ = some (.pointer (some ⟨D, 0, none⟩)) := by rw [cell_of_row _ _ _ _ _ _ blkd]; rfl
    have k1 : w2.cell? ⟨D, 0, none⟩ = some (.slice xa C.length xc) := by rw [cell_of_row _ _ _ _ _ _ e1]; rfl
    have k2 : w2.cell? ⟨D, 2, none⟩ = some (.slice (some ⟨zg, 0, none⟩) 1 zc) := by rw [cell_of_row _ _ _ _ _ _ e1]; rfl
    have k3 : w2.cell? ⟨zg, 0, none⟩ = some (.int .i64 (x : Int)) := by rw [World.ownsRow.cellAt e5 0 (by simp)]; rfl
    have k4 : w2.cell? ⟨p + 1, 0, none⟩ = some (.string s) := (b2.cell (p := ⟨p + 1, 0, none⟩) (by show p + 1 < _; omega)).trans ((b1.cell (p := ⟨p + 1, 0, none⟩) (by show p + 1 < _; omega)).trans q1)
    have hpl : p + 1 < w2.heap.size := by omega
    have hRl2 : R + 1 < w2.heap.size := by omega
    have hWl2 : W.heap.size ≤ w2.heap.size := by omega
    have HW2 : Hid (w2 = w1.alloc (.cells #[.pointer (some ⟨D, 0, none⟩)] 78)) := hw2
    have HDB : Aside (db = w1.heap.size) := hdb
    have HX : Aside (M.hat C H t = (x : Int)) := hx
    have HBD : Aside (w2.heap[db]? = some (.cells #[.pointer (some ⟨D, 0, none⟩)] 78 (0, 0))) := blkd
    have hb2w : Below w.heap.size w w2 := hbw.trans (b2.mono hbw.size)
    have r3 : w2.heap[R]? = some (.cells #[.slice none 0 0, .slice none 0 0] 25 (0, 0)) := (b2.block R (by omega)).trans r2
    have HZ : Aside (M.hchk C H t = 0) := hz
    have HRC : Aside (M.rchk C H = 0) := hr0
    have HE2 : Aside (w2.heap[D]? = some (.cells #[.slice xa C.length xc, vy, .slice (some ⟨zg, 0, none⟩) 1 zc] 82 (0, 0))) := e1
    have HY2 : Aside (∀ g cp, vy = .slice (some ⟨g, 0, none⟩) H.length cp → g < w2.heap.size) := by
      intro g cp e
      rcases e4.1.2 with ⟨e', _⟩ | ⟨g', cap', cur, e', _, hh, _⟩
      · rw [e'] at e; simp at e
      · rw [e'] at e
        simp only [Value.slice.injEq, Option.some.injEq, Addr.mk.injEq] at e
        obtain ⟨⟨rfl, _⟩, _⟩ := e
        exact (Array.getElem?_eq_some_iff.1 hh).1
    clear hw2 hdb hx blkd e1 e3 e4 e5 hD hDm b2 r2 hz hr0 hlen hat
    go_wp2_with fail
    rw [← HDB.out, ← HW2.out]
    have hdl : db < w2.heap.size := by omega
    have hzl : zg < w2.heap.size := World.block_lt_of_cell? w2 ⟨zg, 0, none⟩ k3
    have hDl2 : D < w2.heap.size := HD2.out.lt
    go_region_held3 (fun V => V.cell? ⟨p + 1, 0, none⟩ = some (.string s) ∧ V.cell? ⟨db, 0, none⟩ = some (.pointer (some ⟨D, 0, none⟩)) ∧ V.cell? ⟨D, 2, none⟩ = some (.slice (some ⟨zg, 0, none⟩) 1 zc) ∧ V.cell? ⟨zg, 0, none⟩ = some (.int .i64 (x : Int))) (first | exact ⟨k4, k0, k2, k3⟩ | go_keep) (fail)
    obtain ⟨w3, hw3⟩ : ∃ w3, w3 = (w2.alloc (.cells #[.string s, .int .i64 (x : Int)] 71)).drew := ⟨_, rfl⟩
    obtain ⟨hb', hhb⟩ : ∃ hb', hb' = db + 1 := ⟨_, rfl⟩
    have b3 : Below w2.heap.size w2 w3 := by rw [hw3]; exact ((Below.refl _ _).alloc (Nat.le_refl _) _).drew
    have blkh : w3.heap[hb']? = some (.cells #[.string s, .int .i64 (x : Int)] 71 (0, 0)) := by rw [hw3, hhb, ← hs2]; exact heap_alloc_new _ _
    have hs3 : w3.heap.size = hb' + 1 := by rw [hw3, hhb]; show (w2.alloc _).heap.size = _; simp [hs2]
    rw [← hw3, ← hhb]
    have m0 : w3.cell? ⟨db, 0, none⟩ = some (.pointer (some ⟨D, 0, none⟩)) := (b3.cell (p := ⟨db, 0, none⟩) hdl).trans k0
    have m1 : w3.cell? ⟨D, 0, none⟩ = some (.slice xa C.length xc) := (b3.cell (p := ⟨D, 0, none⟩) hDl2).trans k1
    have m2 : w3.cell? ⟨hb', 0, none⟩ = some (.string s) := by rw [cell_of_row _ _ _ _ _ _ blkh]; rfl
    have m3 : w3.cell? ⟨hb', 1, none⟩ = some (.int .i64 (x : Int)) := by rw [cell_of_row _ _ _ _ _ _ blkh]; rfl
    have hdl3 : db < w3.heap.size := by omega
    have hDl3 : D < w3.heap.size := by omega
    have hhl3 : hb' < w3.heap.size := by omega
    have hcm3 : Cm w3 xa C.length C := hcm.below b3 (Nat.le_refl _)
    have HD3 : Aside (DeskAt w3 W.heap.size D C H [(x : Int)]) := HD2.out.later b3
    have HBD3 : Aside (w3.heap[db]? = some (.cells #[.pointer (some ⟨D, 0, none⟩)] 78 (0, 0))) := (b3.block db hdl).trans HBD.out
    have HN3 : Aside (w3.cell? ⟨p + 1, 0, none⟩ = some (.string s)) := (b3.cell (p := ⟨p + 1, 0, none⟩) hpl).trans k4
    have hb3w : Below w.heap.size w w3 := hb2w.trans (b3.mono hb2w.size)
    have HR3 : Aside (w3.heap[R]? = some (.cells #[.slice none 0 0, .slice none 0 0] 25 (0, 0))) := (b3.block R (by omega)).trans r3
    have HH3 : Aside (w3.heap[hb']? = some (.cells #[.string s, .int .i64 (x : Int)] 71 (0, 0))) := blkh
    have hl3 : R + 1 < w3.heap.size ∧ p + 1 < w3.heap.size ∧ W.heap.size ≤ w3.heap.size := by omega
    have HE3 : Aside (w3.heap[D]? = some (.cells #[.slice xa C.length xc, vy, .slice (some ⟨zg, 0, none⟩) 1 zc] 82 (0, 0))) := (b3.block D hDl2).trans HE2.out
    have HY3 : Aside (∀ g cp, vy = .slice (some ⟨g, 0, none⟩) H.length cp → g < hb') := fun g cp e => by have := HY2.out g cp e; omega
    clear hw3 k0 k1 k2 k3 k4 blkh r3 hhb b3 hs2 hcm
    go_wp2_with fail
    go_region_held3 (fun V => V.cell? ⟨db, 0, none⟩ = some (.pointer (some ⟨D, 0, none⟩)) ∧ V.cell? ⟨D, 0, none⟩ = some (.slice xa C.length xc) ∧ V.cell? ⟨hb', 0, none⟩ = some (.string s) ∧ V.cell? ⟨hb', 1, none⟩ = some (.int .i64 (x : Int))) (first | exact ⟨m0, m1, m2, m3⟩ | go_keep) (fail)
    generalize hVe : ((w3.alloc (.cells #[.string s, .int .i64 (x : Int)] 71)).alloc (.cells #[.slice xa C.length xc, .slice (some ⟨hb' + 1, 0, none⟩) 1 1] 25)).drew = V
    generalize hab : hb' + 1 + 1 = ab
    generalize hha : hb' + 1 = ha
    have FV : Bz w3 V ha ab s (x : Int) (.slice xa C.length xc) := by rw [← hVe, ← hab, ← hha, ← hs3]; exact Bz.one _ _ _ _
    clear hVe hab hha
    rotate_left
    generalize hVe : ((w3.alloc (.cells #[.slice xa C.length xc, .slice (some ⟨hb' + 1 + 1, 0, none⟩) 1 1] 25)).alloc (.cells #[.string s, .int .i64 (x : Int)] 71)).drew = V
    generalize hha : hb' + 1 + 1 = ha
    generalize hab : hb' + 1 = ab
    have FV : Bz w3 V ha ab s (x : Int) (.slice xa C.length xc) := by rw [← hVe, ← hab, ← hha, ← hs3]; exact Bz.two _ _ _ _
    clear hVe hab hha
    all_goals
      have hsV := FV.bel.size
      have hbV : Below w.heap.size w V := hb3w.trans (FV.bel.mono hb3w.size)
      have dV : V.heap[db]? = some (.cells #[.pointer (some ⟨D, 0, none⟩)] 78 (0, 0)) := (FV.bel.block db hdl3).trans HBD3.out
      have nV : V.cell? ⟨p + 1, 0, none⟩ = some (.string s) := (FV.bel.cell (p := ⟨p + 1, 0, none⟩) hl3.2.1).trans HN3.out
      have DV : DeskAt V W.heap.size D C H [(x : Int)] := HD3.out.later FV.bel
      have hV3 : V.heap[hb']? = some (.cells #[.string s, .int .i64 (x : Int)] 71 (0, 0)) := (FV.bel.block hb' hhl3).trans HH3.out
      have rV : V.heap[R]? = some (.cells #[.slice none 0 0, .slice none 0 0] 25 (0, 0)) := (FV.bel.block R (by omega)).trans HR3.out
      have haV : ha < V.heap.size := (Array.getElem?_eq_some_iff.1 FV.a).1
      have habV : ab < V.heap.size := (Array.getElem?_eq_some_iff.1 FV.b).1
      have cmV : Cm V xa C.length C := hcm3.below FV.bel (Nat.le_refl _)
      obtain ⟨bb, hbb⟩ : ∃ bb, bb = V.heap.size := ⟨_, rfl⟩
      obtain ⟨w5, hw5⟩ : ∃ w5, w5 = V.alloc (.cells #[.int .i64 4, .func (.func 73) #[] #[.pointer (some ⟨ab, 0, none⟩)], .int .i64 6, .func (.func 74) #[] #[.pointer (some ⟨db, 0, none⟩), .pointer (some ⟨p + 1, 0, none⟩)], .int .i64 2, .func (.func 76) #[] #[.pointer (some ⟨db, 0, none⟩)]] 86) := ⟨_, rfl⟩
      have b5 : Below V.heap.size V w5 := by rw [hw5]; exact (Below.refl _ _).alloc (Nat.le_refl _) _
      have hs5 : w5.heap.size = bb + 1 := by rw [hw5, hbb]; simp
      have hdz : M.dchk C = 0 := (M.rchk_zero HRC.out).1
      have KF := firstOf_any bb 3 [⟨4, 73, [.pointer (some ⟨ab, 0, none⟩)], !M.nam s⟩, ⟨6, 74, [.pointer (some ⟨db, 0, none⟩), .pointer (some ⟨p + 1, 0, none⟩)], decide (0 ≤ M.plc H s)⟩, ⟨2, 76, [.pointer (some ⟨db, 0, none⟩)], decide (4 ≤ H.length)⟩] w5 rfl (by omega) (by omega)
        (fun i hi => by
          rw [hw5, hbb]
          match i, hi with
          | 0, _ => constructor <;> simp [go_sem]
          | 1, _ => constructor <;> simp [go_sem]
          | 2, _ => constructor <;> simp [go_sem])
        (fun b hb => by
          simp only [List.mem_cons, List.not_mem_nil, or_false] at hb
          rcases hb with rfl | rfl | rfl
          · refine ⟨enters_of Tryz.func73 (by kernel_rfl) rfl, fun V' hV' => ?_⟩
            have hh := dbelow2 b5 hV'
            have K := wbranch1_any ab xa C.length xc C (some ⟨ha, 0, none⟩) 1 1 [(s, (x : Int))] V' (by rw [cell_of_row _ _ _ _ _ _ ((hh.block ab habV).trans FV.b)]; rfl) (by rw [cell_of_row _ _ _ _ _ _ ((hh.block ab habV).trans FV.b)]; rfl) (cmV.below hh (Nat.le_refl _)) (by unfold maxLen at hxc2; omega) (⟨rfl, Or.inr ⟨ha, 0, rfl, Nat.lt_of_lt_of_le haV hh.size, fun i hi => (by obtain rfl : i = 0 := (by omega); exact ⟨(by rw [cell_of_row _ _ _ _ _ _ ((hh.block ha haV).trans FV.a)]; rfl), (by rw [cell_of_row _ _ _ _ _ _ ((hh.block ha haV).trans FV.a)]; rfl), hss⟩)⟩⟩) (by omega)
            rw [M.rchk_one C s x hdz hxl] at K
            exact K
          · refine ⟨enters_of Tryz.func74 (by kernel_rfl) rfl, fun V' hV' => ?_⟩
            have hh := dbelow2 b5 hV'
            exact wbranch2_any db (p + 1) D W.heap.size C H [(x : Int)] s V' (by rw [cell_of_row _ _ _ _ _ _ ((hh.block db (by omega)).trans dV)]; rfl) ((hh.cell (p := ⟨p + 1, 0, none⟩) (by show p + 1 < _; omega)).trans nV) (DV.later hh)
          · refine ⟨enters_of Tryz.func76 (by kernel_rfl) rfl, fun V' hV' => ?_⟩
            have hh := dbelow2 b5 hV'
            obtain ⟨x', y', z', e1, _, _, e4, _⟩ := DV.later hh
            obtain ⟨ya, yc, rfl, _⟩ := e4.hs
            exact wbranch3_any db D H.length yc ya V' (by rw [cell_of_row _ _ _ _ _ _ ((hh.block db (by omega)).trans dV)]; rfl) (by rw [cell_of_row _ _ _ _ _ _ e1]; rfl))
      obtain ⟨c, hc⟩ : ∃ c, c = firstE [⟨4, 73, [.pointer (some ⟨ab, 0, none⟩)], !M.nam s⟩, ⟨6, 74, [.pointer (some ⟨db, 0, none⟩), .pointer (some ⟨p + 1, 0, none⟩)], decide (0 ≤ M.plc H s)⟩, ⟨2, 76, [.pointer (some ⟨db, 0, none⟩)], decide (4 ≤ H.length)⟩] := ⟨_, rfl⟩
      rw [← hc] at KF
      obtain ⟨hE, hH4⟩ := M.brE_first HZ.out hc
      have HE : Aside (M.brE C H s t = c) := hE
      have HKF : Hid (Calls Tryz.prog 42 #[.slice (some ⟨bb, 0, none⟩) 3 3] w5 fun e w' => e = .returned (.int .i64 c) ∧ Below w5.heap.size w5 w') := KF
      have HW5 : Hid (w5 = V.alloc (.cells #[.int .i64 4, .func (.func 73) #[] #[.pointer (some ⟨ab, 0, none⟩)], .int .i64 6, .func (.func 74) #[] #[.pointer (some ⟨db, 0, none⟩), .pointer (some ⟨p + 1, 0, none⟩)], .int .i64 2, .func (.func 76) #[] #[.pointer (some ⟨db, 0, none⟩)]] 86)) := hw5
      have HBB : Aside (bb = V.heap.size) := hbb
      have HD5 : Aside (DeskAt w5 W.heap.size D C H [(x : Int)]) := DV.later b5
      have Hd5 : Aside (w5.heap[db]? = some (.cells #[.pointer (some ⟨D, 0, none⟩)] 78 (0, 0))) := (b5.block db (by omega)).trans dV
      have Hh5 : Aside (w5.heap[hb']? = some (.cells #[.string s, .int .i64 (x : Int)] 71 (0, 0))) := (b5.block hb' (by omega)).trans hV3
      have hb5w : Below w.heap.size w w5 := hbV.trans (b5.mono hbV.size)
      have HR5 : Aside (w5.heap[R]? = some (.cells #[.slice none 0 0, .slice none 0 0] 25 (0, 0))) := (b5.block R (by omega)).trans rV
      have hl5 : R + 1 < w5.heap.size ∧ db < w5.heap.size ∧ hb' < w5.heap.size ∧ D < w5.heap.size ∧ W.heap.size ≤ w5.heap.size := by omega
      have HH4 : Aside (c = 0 → H.length < 4) := hH4
      have HE5 : Aside (w5.heap[D]? = some (.cells #[.slice xa C.length xc, vy, .slice (some ⟨zg, 0, none⟩) 1 zc] 82 (0, 0))) := (b5.block D (by omega)).trans ((FV.bel.block D hDl3).trans HE3.out)
      clear KF hw5 DV dV nV rV hV3 cmV hc hE hH4 b5 hbb FV m0 m1 m2 m3 hcm3
      go_wp2_with fail
      rw [← HBB.out, ← HW5.out]
      refine HKF.out.mono ?_
      rintro e w6 ⟨rfl, b6⟩
      have hs6 := b6.size
      have b6w : Below w.heap.size w w6 := hb5w.trans (b6.mono hb5w.size)
      have r6 : w6.heap[R]? = some (.cells #[.slice none 0 0, .slice none 0 0] 25 (0, 0)) := (b6.block R (by omega)).trans HR5.out
      by_cases hc0 : c = 0
      · have hne : (c != 0) = false := by simp [hc0]
        have hH3 := HH4.out hc0
        have E0 : Aside (M.brE C H s t = 0) := by unfold Aside; rw [HE.out]; exact hc0
        have EC : Aside (M.brC C H s t = C ∧ M.brH C H s t = M.insH (s, (x : Int)) H) := ⟨by unfold M.brC; rw [if_pos E0.out], by unfold M.brH; rw [if_pos E0.out, HX.out]⟩
        have D6 : DeskAt w6 W.heap.size D C H [(x : Int)] := HD5.out.later b6
        have d6 : w6.heap[db]? = some (.cells #[.pointer (some ⟨D, 0, none⟩)] 78 (0, 0)) := (b6.block db (by omega)).trans Hd5.out
        have h6 : w6.heap[hb']? = some (.cells #[.string s, .int .i64 (x : Int)] 71 (0, 0)) := (b6.block hb' (by omega)).trans Hh5.out
        have HWw : Hid (w.heap.size ≤ W.heap.size) := hb.size
        have hH1 : 1 ≤ H.length := by have h0 := (M.hchk_zero HZ.out).2; rcases M.plc_lt H t with h | h <;> omega
        obtain ⟨x6, y6, z6, e6, hbD6, ok6, oh6, oi6⟩ := D6
        obtain ⟨g, cp, rfl⟩ : ∃ g cp, y6 = .slice (some ⟨g, 0, none⟩) H.length cp := by
          rcases oh6.1.2 with ⟨_, e⟩ | ⟨g, cap, _, e, _⟩
          · omega
          · exact ⟨g, cap, e⟩
        obtain ⟨cur, hgb, hgbase⟩ : ∃ cur, w6.heap[g]? = some (.cells cur 71 (0, 0)) ∧ W.heap.size ≤ g := by
          rcases oh6.1.2 with ⟨e, _⟩ | ⟨g', cap', cur, e, hb', hh, hc', _⟩
          · simp at e
          · simp only [Value.slice.injEq, Option.some.injEq, Addr.mk.injEq] at e
            obtain ⟨⟨rfl, _⟩, _, rfl⟩ := e
            exact ⟨cur, hh, hb'⟩
        have hgd : db ≠ g := fun e => by rw [← e, d6] at hgb; simp at hgb
        have hgh : hb' ≠ g := by
          have e := (b6.block D (by omega)).trans HE5.out
          rw [e6] at e
          simp only [Option.some.injEq, Obj.cells.injEq] at e
          have e' := congrArg (fun a : Array Value => a[1]?) e.1
          have := HY3.out g cp (by simpa using e'.symm)
          omega
        obtain ⟨W7, hW7⟩ : ∃ W7, W7 = w6.drew.alloc (.cells #[.string s, .int .i64 (x : Int)] 71) := ⟨_, rfl⟩
        have b67 : Below w6.heap.size w6 W7 := by rw [hW7]; exact ((Below.refl _ _).drew).alloc (Nat.le_refl _) _
        have HRA : Hid ((w6.drew.alloc (.cells #[.string s, .int .i64 (x : Int)] 71)).ownsRow W.heap.size 71 2 (.slice (some ⟨g, 0, none⟩) H.length cp) H.length (encH H)) := by rw [← hW7]; exact ownsRow_later oh6.1 b67
        have HRh : Aside (∀ g8 cap8 w8, w8.ownsRow W.heap.size 71 2 (.slice (some ⟨g8, 0, none⟩) (H.length + 1) cap8) (H.length + 1) (encH H ++ [.string s, .int .i64 (x : Int)]) → (w6.drew.alloc (.cells #[.string s, .int .i64 (x : Int)] 71)).grownBy w8 (some g) →
            DeskAt (w8.setCell ⟨D, 1, none⟩ (.slice (some ⟨g8, 0, none⟩) (H.length + 1) cap8)) W.heap.size D C (H ++ [(s, (x : Int))]) [(x : Int)] ∧ w8.heap[D]? = some (.cells #[x6, .slice (some ⟨g, 0, none⟩) H.length cp, z6] 82 (0, 0)) ∧ w8.heap[db]? = some (.cells #[.pointer (some ⟨D, 0, none⟩)] 78 (0, 0)) ∧ Below W.heap.size w6 w8 ∧ w8.heap[R]? = some (.cells #[.slice none 0 0, .slice none 0 0] 25 (0, 0)) ∧ w8.heap[hb']? = some (.cells #[.string s, .int .i64 (x : Int)] 71 (0, 0))) := by
          intro g8 cap8 w8 ho hg8
          rw [← hW7] at hg8
          have hgb7 : W7.heap[g]? = some (.cells cur 71 (0, 0)) := (b67.block g (Array.getElem?_eq_some_iff.1 hgb).1).trans hgb
          have s67 := b67.size
          obtain ⟨q1, q2⟩ := DeskAt.reheaded (y' := .slice (some ⟨g8, 0, none⟩) (H.length + 1) cap8) (H' := H ++ [(s, (x : Int))]) ((b67.block D (by omega)).trans e6) hbD6 (ok6.later b67) (ownsRow_later oi6 b67) hgb7 hg8 ⟨by rw [encH_append, List.length_append]; exact ho, fun y hy => by
            rcases List.mem_append.1 hy with hy | hy
            · exact oh6.2 y hy
            · simp at hy; subst hy; exact hss⟩
          refine ⟨q1, q2, (hg8.block db (by omega) (by simp [hgd])).trans ((b67.block db (by omega)).trans d6), (b67.mono (by omega)).trans (below_of_grown hg8 hgbase (by omega)), (hg8.block R (by omega) (by simp; omega)).trans ((b67.block R (by omega)).trans r6), (hg8.block hb' (by omega) (by simp [hgh])).trans ((b67.block hb' (by omega)).trans h6)⟩
        have n0 : w6.cell? ⟨db, 0, none⟩ = some (.pointer (some ⟨D, 0, none⟩)) := by rw [cell_of_row _ _ _ _ _ _ d6]; rfl
        have n1 : w6.cell? ⟨D, 1, none⟩ = some (.slice (some ⟨g, 0, none⟩) H.length cp) := by rw [cell_of_row _ _ _ _ _ _ e6]; rfl
        have n2 : w6.cell? ⟨hb', 0, none⟩ = some (.string s) := by rw [cell_of_row _ _ _ _ _ _ h6]; rfl
        have n3 : w6.cell? ⟨hb', 1, none⟩ = some (.int .i64 (x : Int)) := by rw [cell_of_row _ _ _ _ _ _ h6]; rfl
        have HS7 : Hid ((w6.drew.alloc (.cells #[.string s, .int .i64 (x : Int)] 71)).cell? ⟨db, 0, none⟩ = some (.pointer (some ⟨D, 0, none⟩)) ∧ (w6.drew.alloc (.cells #[.string s, .int .i64 (x : Int)] 71)).cell? ⟨D, 1, none⟩ = some (.slice (some ⟨g, 0, none⟩) H.length cp) ∧ (w6.drew.alloc (.cells #[.string s, .int .i64 (x : Int)] 71)).cell? ⟨hb', 0, none⟩ = some (.string s) ∧ (w6.drew.alloc (.cells #[.string s, .int .i64 (x : Int)] 71)).cell? ⟨hb', 1, none⟩ = some (.int .i64 (x : Int))) := by
          rw [← hW7]
          exact ⟨(b67.cell (p := ⟨db, 0, none⟩) (by show db < _; omega)).trans n0, (b67.cell (p := ⟨D, 1, none⟩) (by show D < _; omega)).trans n1, (b67.cell (p := ⟨hb', 0, none⟩) (by show hb' < _; omega)).trans n2, (b67.cell (p := ⟨hb', 1, none⟩) (by show hb' < _; omega)).trans n3⟩
        obtain ⟨i1, hi1, hy0, hy1, hy2⟩ := info_parts infoHead
        have HRise : Aside (M.rise H = true) := (M.rchk_zero HRC.out).2.2.2.2
        clear hc0 HKF e6 ok6 oh6 oi6 hgb d6 h6 r6 hW7
        go_wp2_with fail
        refine wp_region_till 12 (fun V => V.cell? ⟨db, 0, none⟩ = some (.pointer (some ⟨D, 0, none⟩)) ∧ V.cell? ⟨D, 1, none⟩ = some (.slice (some ⟨g, 0, none⟩) H.length cp) ∧ V.cell? ⟨hb', 0, none⟩ = some (.string s) ∧ V.cell? ⟨hb', 1, none⟩ = some (.int .i64 (x : Int))) (by kernel_rfl) ⟨n0, n1, n2, n3⟩ (fun hHeld => ?_)
        refine till_take 0 (v := .pointer (some ⟨D, 0, none⟩)) rfl (by decide) (by kernel_rfl) (by kernel_rfl) (by kernel_rfl) (by kernel_rfl) (by kernel_rfl) (fun _ _ _ h => h) (Or.inl ⟨by rfl, fun V hV => (by obtain ⟨v0, v1, v2, v3⟩ := hV; go_simp)⟩) hHeld ?_
        try simp only [Act.put]
        refine till_take 1 (v := .pointer (some ⟨D, 0, none⟩)) rfl (by decide) (by kernel_rfl) (by kernel_rfl) (by kernel_rfl) (by kernel_rfl) (by kernel_rfl) (fun _ _ _ h => h) (Or.inl ⟨by rfl, fun V hV => (by obtain ⟨v0, v1, v2, v3⟩ := hV; go_simp)⟩) hHeld ?_
        try simp only [Act.put]
        refine till_go 2 (v := .pointer (some ⟨D, 0, none⟩)) rfl (by decide) (by kernel_rfl) (by kernel_rfl) (by kernel_rfl) (fun _ _ _ h => h) (Or.inl ⟨by rfl, fun V _ => (by go_simp)⟩) hHeld ?_
        try simp only [Act.put]
        refine till_go 3 (v := .pointer (some ⟨D, 0, none⟩)) rfl (by decide) (by kernel_rfl) (by kernel_rfl) (by kernel_rfl) (fun _ _ _ h => h) (Or.inl ⟨by rfl, fun V _ => (by go_simp)⟩) hHeld ?_
        try simp only [Act.put]
        refine till_go 4 (v := .pointer (some ⟨D, 1, none⟩)) rfl (by decide) (by kernel_rfl) (by kernel_rfl) (by kernel_rfl) (fun _ _ _ h => h) (Or.inl ⟨by rfl, fun V _ => (by go_simp)⟩) hHeld ?_
        try simp only [Act.put]
        refine till_take 5 (v := .slice (some ⟨g, 0, none⟩) H.length cp) rfl (by decide) (by kernel_rfl) (by kernel_rfl) (by kernel_rfl) (by kernel_rfl) (by kernel_rfl) (fun _ _ _ h => h) (Or.inl ⟨by rfl, fun V hV => (by obtain ⟨v0, v1, v2, v3⟩ := hV; go_simp)⟩) hHeld ?_
        try simp only [Act.put]
        refine till_take 6 (v := .agg #[.string s, .int .i64 (x : Int)]) rfl (by decide) (by kernel_rfl) (by kernel_rfl) (by kernel_rfl) (by kernel_rfl) (by kernel_rfl) (fun _ _ _ h => h) (Or.inl ⟨by rfl, fun V hV => (by obtain ⟨v0, v1, v2, v3⟩ := hV; go_simp)⟩) hHeld ?_
        try simp only [Act.put]
        refine till_step 7 rfl (by decide) (by kernel_rfl) (fun K hK => ?_)
        go_simp
        refine hK.out _ _ HS7.out (fun hHeld => ?_)
        clear hK K
        refine till_step 8 rfl (by decide) (by kernel_rfl) (fun K hK => ?_)
        refine step_append_lies _ rfl _ _ 23 rfl W.heap.size 71 i1 (.agg #[.string ⟨#[]⟩, .int .i64 0]) 2 24 Tryz.underlying23 hi1 hy0 hy1 hy2 rfl (by decide) _ H.length (encH H) rfl HRA.out ⟨w6.heap.size, 0, none⟩ 1 1 [.string s, .int .i64 (x : Int)] rfl rfl (cell_pair_new _ _ _ _) (by simp [Value.oneCell']) (by decide) (by simp only [maxLen]; omega) (by omega) (by simp; omega) _ rfl ?_
        intro g8 cap8 w8 h8 h7 _ _
        obtain ⟨P1, P2, P3, P4, P5, P6⟩ := HRh.out g8 cap8 w8 h8 h7
        have i0 : w8.cell? ⟨db, 0, none⟩ = some (.pointer (some ⟨D, 0, none⟩)) := by rw [cell_of_row _ _ _ _ _ _ P3]; rfl
        have i1' : w8.cell? ⟨D, 1, none⟩ = some (.slice (some ⟨g, 0, none⟩) H.length cp) := by rw [cell_of_row _ _ _ _ _ _ P2]; rfl
        have i2 : w8.cell? ⟨hb', 0, none⟩ = some (.string s) := by rw [cell_of_row _ _ _ _ _ _ P6]; rfl
        have i3 : w8.cell? ⟨hb', 1, none⟩ = some (.int .i64 (x : Int)) := by rw [cell_of_row _ _ _ _ _ _ P6]; rfl
        have nf : w8.frozen? ⟨D, 1, none⟩ = false := frozen_of_row _ _ _ _ _ P2
        have hDd : D ≠ db := fun e => by rw [e, P3] at P2; simp at P2
        have HD9 : Hid (DeskAt (w8.setCell ⟨D, 1, none⟩ (.slice (some ⟨g8, 0, none⟩) (H.length + 1) cap8)) W.heap.size D C (H ++ [(s, (x : Int))]) [(x : Int)]) := P1
        have HB9 : Hid (Below w.heap.size w (w8.setCell ⟨D, 1, none⟩ (.slice (some ⟨g8, 0, none⟩) (H.length + 1) cap8))) := (b6w.trans (P4.mono HWw.out)).setCell (p := ⟨D, 1, none⟩) (by show _ ≤ D; have := HWw.out; omega) _
        have HR9 : Hid ((w8.setCell ⟨D, 1, none⟩ (.slice (some ⟨g8, 0, none⟩) (H.length + 1) cap8)).heap[R]? = some (.cells #[.slice none 0 0, .slice none 0 0] 25 (0, 0))) := by
          unfold Hid
          rw [heap_setCell_other _ _ _ _ (show R ≠ D by omega)]
          exact P5
        have Hd9 : Hid ((w8.setCell ⟨D, 1, none⟩ (.slice (some ⟨g8, 0, none⟩) (H.length + 1) cap8)).heap[db]? = some (.cells #[.pointer (some ⟨D, 0, none⟩)] 78 (0, 0))) := by
          unfold Hid
          rw [heap_setCell_other _ _ _ _ (show db ≠ D from fun e => hDd e.symm)]
          exact P3
        have HY9 : Hid ((w8.setCell ⟨D, 1, none⟩ (.slice (some ⟨g8, 0, none⟩) (H.length + 1) cap8)).heap[D]? = some (.cells #[x6, .slice (some ⟨g8, 0, none⟩) (H.length + 1) cap8, z6] 82 (0, 0))) := by
          unfold Hid
          rw [heap_setCell_same _ _ _ _ _ _ P2]; rfl
        clear P1 P2 P3 P4 P5 P6 h8 h7 hDd
        refine hK.out _ _ ⟨i0, i1', i2, i3⟩ (fun hHeld => ?_)
        clear hK K
        try simp only [Act.put]
        refine till_go 9 (v := .pointer (some ⟨D, 0, none⟩)) rfl (by decide) (by kernel_rfl) (by kernel_rfl) (by kernel_rfl) (fun _ _ _ h => h) (Or.inl ⟨by rfl, fun V _ => (by go_simp)⟩) hHeld ?_
        try simp only [Act.put]
        refine till_go 10 (v := .pointer (some ⟨D, 0, none⟩)) rfl (by decide) (by kernel_rfl) (by kernel_rfl) (by kernel_rfl) (fun _ _ _ h => h) (Or.inl ⟨by rfl, fun V _ => (by go_simp)⟩) hHeld ?_
        try simp only [Act.put]
        refine till_go 11 (v := .pointer (some ⟨D, 1, none⟩)) rfl (by decide) (by kernel_rfl) (by kernel_rfl) (by kernel_rfl) (fun _ _ _ h => h) (Or.inl ⟨by rfl, fun V _ => (by go_simp)⟩) hHeld ?_
        try simp only [Act.put]
        refine till_last rfl (by kernel_rfl) (by kernel_rfl) (fun K hK => ?_) _
        go_simp
        refine hK.out _ _ ?_
        clear hK K hHeld
        obtain ⟨w9, hw9⟩ : ∃ w9, w9 = w8.setCell ⟨D, 1, none⟩ (.slice (some ⟨g8, 0, none⟩) (H.length + 1) cap8) := ⟨_, rfl⟩
        rw [← hw9] at HD9 HB9 HR9 Hd9 HY9 ⊢
        have y9 : w9.cell? ⟨D, 1, none⟩ = some (.slice (some ⟨g8, 0, none⟩) (H.length + 1) cap8) := by rw [cell_of_row _ _ _ _ _ _ HY9.out]; rfl
        have d9 : w9.cell? ⟨db, 0, none⟩ = some (.pointer (some ⟨D, 0, none⟩)) := by rw [cell_of_row _ _ _ _ _ _ Hd9.out]; rfl
        have hD9l : D < w9.heap.size := (Array.getElem?_eq_some_iff.1 HY9.out).1
        have hd9l : db < w9.heap.size := (Array.getElem?_eq_some_iff.1 Hd9.out).1
        have hR9l : R < w9.heap.size := (Array.getElem?_eq_some_iff.1 HR9.out).1
        have hL : (H ++ [(s, (x : Int))]).length = H.length + 1 := by simp
        obtain ⟨HSrt, HSo⟩ : Hid (Calls Tryz.prog 77 #[.slice (some ⟨g8, 0, none⟩) (H.length + 1) cap8, .func (.func 78) #[] #[]] w9 fun e w' => e = .returned (.tuple #[]) ∧ OwnH w' W.heap.size (.slice (some ⟨g8, 0, none⟩) (H.length + 1) cap8) (M.insH (s, (x : Int)) H) ∧ w9.grownBy w' (some g8)) ∧
            Aside (∀ w', OwnH w' W.heap.size (.slice (some ⟨g8, 0, none⟩) (H.length + 1) cap8) (M.insH (s, (x : Int)) H) → w9.grownBy w' (some g8) → DeskAt w' W.heap.size D C (M.insH (s, (x : Int)) H) [(x : Int)] ∧ Below w.heap.size w w' ∧ w'.heap[R]? = some (.cells #[.slice none 0 0, .slice none 0 0] 25 (0, 0)) ∧ w'.heap[db]? = some (.cells #[.pointer (some ⟨D, 0, none⟩)] 78 (0, 0))) := by
          obtain ⟨xx, yy, zz, a1, a2', a3, a4, a5⟩ := HD9.out
          rw [HY9.out] at a1
          simp only [Option.some.injEq, Obj.cells.injEq] at a1
          have u1 := congrArg (fun a : Array Value => a[0]?) a1.1
          have u2 := congrArg (fun a : Array Value => a[1]?) a1.1
          have u3 := congrArg (fun a : Array Value => a[2]?) a1.1
          simp only [List.getElem?_toArray, List.getElem?_cons_zero, List.getElem?_cons_succ, Option.some.injEq] at u1 u2 u3
          subst u1 u2 u3
          obtain ⟨cur9, hg9, hgb9, hcp9⟩ : ∃ cur, w9.heap[g8]? = some (.cells cur 71 (0, 0)) ∧ W.heap.size ≤ g8 ∧ H.length + 1 ≤ cap8 := by
            rcases a4.1.2 with ⟨e, _⟩ | ⟨g', cap', cur, e, hb', hh, hc', _⟩
            · simp at e
            · simp only [Value.slice.injEq, Option.some.injEq, Addr.mk.injEq] at e
              obtain ⟨⟨rfl, _⟩, _, rfl⟩ := e
              exact ⟨cur, hh, hb', by rw [hL] at hc'; exact hc'⟩
          refine ⟨?_, fun w' ho hg => ?_⟩
          · have K := hsort_any W.heap.size g8 cap8 H (s, (x : Int)) w9 (by rw [hL]; exact a4) (by rw [hL]; exact hcp9) HRise.out hH1 (by omega)
            rw [hL] at K
            exact K
          · have hDg : D ≠ g8 := fun e => by rw [← e, HY9.out] at hg9; simp at hg9
            have hdg : db ≠ g8 := fun e => by rw [← e, Hd9.out] at hg9; simp at hg9
            have hRg : R ≠ g8 := fun e => by rw [← e, HR9.out] at hg9; simp at hg9
            refine ⟨⟨_, _, _, (hg.block D hD9l (by simp [hDg])).trans HY9.out, a2', a3.elsewhere hg hg9 (by decide) (by decide) (by decide), ho, ownsRow_elsewhere a5 hg fun r hr cur' he => by cases hr; rw [hg9] at he; simp at he⟩, HB9.out.trans (below_of_grown hg (by have := HWw.out; omega) HB9.out.size), (hg.block R hR9l (by simp [hRg])).trans HR9.out, (hg.block db hd9l (by simp [hdg])).trans Hd9.out⟩
        clear hw9 i0 i1' i2 i3 nf n0 n1 n2 n3 HS7 HRA HRh HD9 HB9 HR9 Hd9 HY9 hD9l hd9l hR9l hL
        go_wp2_with fail
        refine HSrt.out.mono ?_
        rintro e w10 ⟨rfl, ho10, hg10⟩
        obtain ⟨hd8, w8b, w8r, d8⟩ := HSo.out w10 ho10 hg10
        clear ho10 hg10 HSrt HSo y9 d9
        have m0 : w10.cell? ⟨db, 0, none⟩ = some (.pointer (some ⟨D, 0, none⟩)) := by rw [cell_of_row _ _ _ _ _ _ d8]; rfl
        obtain ⟨x8, y8, z8, e8, _, o8, h8, _⟩ := hd8
        obtain ⟨xa8, xc8, rfl, _⟩ := o8.cm
        obtain ⟨ya8, yc8, rfl, _⟩ := h8.hs
        generalize hln : (C).length = ln at *
        generalize hlh : (M.insH (s, (x : Int)) H).length = lh at *
        have m1 : w10.cell? ⟨D, 0, none⟩ = some (.slice xa8 ln xc8) := by rw [cell_of_row _ _ _ _ _ _ e8]; rfl
        have m2 : w10.cell? ⟨D, 1, none⟩ = some (.slice ya8 lh yc8) := by rw [cell_of_row _ _ _ _ _ _ e8]; rfl
        have HRO : Aside (RepoOwn ((w10.setCell ⟨R, 0, none⟩ (.slice xa8 ln xc8)).setCell ⟨R, 1, none⟩ (.slice ya8 lh yc8)) w.heap.size (.agg #[.slice xa8 ln xc8, .slice ya8 lh yc8]) (M.brC C H s t) (M.brH C H s t)) := by unfold Aside; rw [EC.out.1, EC.out.2]; exact (repoOwn_set w8r o8 h8).lower HWw.out
        obtain ⟨g1, g2, g3⟩ := res_set w8r (.slice xa8 ln xc8) (.slice ya8 lh yc8)
        obtain ⟨X, hX⟩ : ∃ X, X = (w10.setCell ⟨R, 0, none⟩ (.slice xa8 ln xc8)).setCell ⟨R, 1, none⟩ (.slice ya8 lh yc8) := ⟨_, rfl⟩
        rw [← hX] at g1 HRO
        have bX : Below w.heap.size w X := by rw [hX]; exact (w8b.setCell (p := ⟨R, 0, none⟩) (by show _ ≤ R; have := HPR.out; omega) _).setCell (p := ⟨R, 1, none⟩) (by show _ ≤ R; have := HPR.out; omega) _
        have HX9 : Hid (X = (w10.setCell ⟨R, 0, none⟩ (.slice xa8 ln xc8)).setCell ⟨R, 1, none⟩ (.slice ya8 lh yc8)) := hX
        have HX0 : Aside (X.cell? ⟨R, 0, none⟩ = some (.slice xa8 ln xc8)) := by unfold Aside; rw [cell_of_row _ _ _ _ _ _ g1]; rfl
        have HX1 : Aside (X.cell? ⟨R, 1, none⟩ = some (.slice ya8 lh yc8)) := by unfold Aside; rw [cell_of_row _ _ _ _ _ _ g1]; rfl
        have x0 : w10.cell? ⟨R, 0, none⟩ = some (.slice none 0 0) := by rw [cell_of_row _ _ _ _ _ _ w8r]; rfl
        have x1 : w10.cell? ⟨R, 1, none⟩ = some (.slice none 0 0) := by rw [cell_of_row _ _ _ _ _ _ w8r]; rfl
        have f0 : w10.frozen? ⟨R, 0, none⟩ = false := frozen_of_row _ _ _ _ _ w8r
        have f1 : w10.frozen? ⟨R, 1, none⟩ = false := frozen_of_row _ _ _ _ _ w8r
        clear g1 g2 g3 hX w8r e8 o8 h8 d8 hln hlh
        go_wp2
        rw [← HX9.out]
        have y0 := HX0.out
        have y1 := HX1.out
        refine bodyPost_ret (v := .tuple #[.agg #[.slice xa8 ln xc8, .slice ya8 lh yc8], .int .i64 0]) (by simp [results, Tryz.results28, go_sem, y0, y1]) rfl ?_
        exact ⟨_, ret_two' E0.out.symm, HRO.out, bX⟩
      · have hne : (c != 0) = true := by simp [hc0]
        have EC : Aside (M.brC C H s t = [] ∧ M.brH C H s t = []) := ⟨by unfold M.brC; rw [HE.out, if_neg hc0], by unfold M.brH; rw [HE.out, if_neg hc0]⟩
        obtain ⟨g1, g2, g3⟩ := res_set r6 (.slice none 0 0) (.slice none 0 0)
        obtain ⟨X, hX⟩ : ∃ X, X = (w6.setCell ⟨R, 0, none⟩ (.slice none 0 0)).setCell ⟨R, 1, none⟩ (.slice none 0 0) := ⟨_, rfl⟩
        rw [← hX] at g1
        have bX : Below w.heap.size w X := by rw [hX]; exact (b6w.setCell (p := ⟨R, 0, none⟩) (by show _ ≤ R; have := HPR.out; omega) _).setCell (p := ⟨R, 1, none⟩) (by show _ ≤ R; have := HPR.out; omega) _
        have gX := g1
        have HX9 : Hid (X = (w6.setCell ⟨R, 0, none⟩ (.slice none 0 0)).setCell ⟨R, 1, none⟩ (.slice none 0 0)) := hX
        have HX0 : Aside (X.cell? ⟨R, 0, none⟩ = some (.slice none 0 0)) := by unfold Aside; rw [cell_of_row _ _ _ _ _ _ gX]; rfl
        have HX1 : Aside (X.cell? ⟨R, 1, none⟩ = some (.slice none 0 0)) := by unfold Aside; rw [cell_of_row _ _ _ _ _ _ gX]; rfl
        have x0 : w6.cell? ⟨R, 0, none⟩ = some (.slice none 0 0) := by rw [cell_of_row _ _ _ _ _ _ r6]; rfl
        have x1 : w6.cell? ⟨R, 1, none⟩ = some (.slice none 0 0) := by rw [cell_of_row _ _ _ _ _ _ r6]; rfl
        have f0 : w6.frozen? ⟨R, 0, none⟩ = false := frozen_of_row _ _ _ _ _ r6
        have f1 : w6.frozen? ⟨R, 1, none⟩ = false := frozen_of_row _ _ _ _ _ r6
        clear g1 g2 g3 hX gX r6 hc0 HKF b6
        go_wp2
        rw [← HX9.out]
        have y0 := HX0.out
        have y1 := HX1.out
        refine bodyPost_ret (v := .tuple #[.agg #[.slice none 0 0, .slice none 0 0], .int .i64 c]) (by simp [results, Tryz.results28, go_sem, y0, y1]) rfl ?_
        refine ⟨_, ret_two' HE.out.symm, ?_, bX⟩
        rw [EC.out.1, EC.out.2]; exact RepoOwn.none _ _
end Go.Proofs.YtcgpgflnihjpiafGreat

/- The law's shop. -/
namespace Go.Proofs.YtcgpgflnihjpiafGreat
open Go.RowKit

def sMain : ByteArray := ⟨#[109, 97, 105, 110]⟩
def sSide : ByteArray := ⟨#[115, 105, 100, 101]⟩
def shopH : List M.Hd := [(sMain, 3), (sSide, 1)]

theorem Rd.same {w w' : World} {b n : Nat} {l : List (Int × Int)} (h : Rd w (some ⟨b, 0, none⟩) n l) (hb : w'.heap[b]? = w.heap[b]?) (hs : w.heap.size ≤ w'.heap.size) : Rd w' (some ⟨b, 0, none⟩) n l := by
  obtain ⟨h1, h2⟩ := h
  refine ⟨h1, ?_⟩
  rcases h2 with h2 | ⟨b', off', ha, hlt, hc⟩
  · exact Or.inl h2
  · cases ha
    refine Or.inr ⟨b, 0, rfl, by omega, fun i hi => ?_⟩
    rw [World.cell?_of_block (a := ⟨b, 0 + i * 2, none⟩) hb, World.cell?_of_block (a := ⟨b, 0 + i * 2 + 1, none⟩) hb]
    exact hc i hi
theorem Ri.same {w w' : World} {b n : Nat} {l : List Int} (h : Ri w (some ⟨b, 0, none⟩) n l) (hb : w'.heap[b]? = w.heap[b]?) (hs : w.heap.size ≤ w'.heap.size) : Ri w' (some ⟨b, 0, none⟩) n l := by
  obtain ⟨h1, h2⟩ := h
  refine ⟨h1, ?_⟩
  rcases h2 with h2 | ⟨b', off', ha, hlt, hc⟩
  · exact Or.inl h2
  · cases ha
    refine Or.inr ⟨b, 0, rfl, by omega, fun i hi => ?_⟩
    rw [World.cell?_of_block (a := ⟨b, 0 + i, none⟩) hb]
    exact hc i hi
/-- The commits of cross, in blocks from lo to g. -/
def CrossFrom (w : World) (lo g : Nat) : Prop := ∃ f b1 b2 b3 b4, w.heap[g]? = some (.cells (crossC f b1 b2 b3 b4) 51 (0, 0)) ∧ (lo ≤ f ∧ f < g) ∧ (lo ≤ b1 ∧ b1 < g) ∧ (lo ≤ b2 ∧ b2 < g) ∧ (lo ≤ b3 ∧ b3 < g) ∧ (lo ≤ b4 ∧ b4 < g) ∧
  Rd w (some ⟨f, 0, none⟩) 3 dfew ∧ Ri w (some ⟨b1, 0, none⟩) 1 [0] ∧ Ri w (some ⟨b2, 0, none⟩) 1 [0] ∧ Ri w (some ⟨b3, 0, none⟩) 2 [1, 2] ∧ Ri w (some ⟨b4, 0, none⟩) 2 [1, 2]
theorem CrossFrom.keep {w w' : World} {lo g : Nat} (h : CrossFrom w lo g) (hk : ∀ k, lo ≤ k → k ≤ g → w'.heap[k]? = w.heap[k]?) (hs : w.heap.size ≤ w'.heap.size) : CrossFrom w' lo g := by
  obtain ⟨f, b1, b2, b3, b4, h1, k1, k2, k3, k4, k5, r1, r2, r3, r4, r5⟩ := h
  exact ⟨f, b1, b2, b3, b4, (hk g (by omega) (Nat.le_refl _)).trans h1, k1, k2, k3, k4, k5, r1.same (hk f (by omega) (by omega)) hs, r2.same (hk b1 (by omega) (by omega)) hs, r3.same (hk b2 (by omega) (by omega)) hs, r4.same (hk b3 (by omega) (by omega)) hs, r5.same (hk b4 (by omega) (by omega)) hs⟩
theorem CrossFrom.at {w : World} {lo g : Nat} (h : CrossFrom w lo g) : CrossAt w g := by
  obtain ⟨f, b1, b2, b3, b4, h1, k1, k2, k3, k4, k5, r⟩ := h
  exact ⟨f, b1, b2, b3, b4, h1, k1.2, k2.2, k3.2, k4.2, k5.2, r⟩

theorem crossF_any (w : World) : Calls Tryz.prog 82 #[] w fun e w' => ∃ g, e = .returned (.slice (some ⟨g, 0, none⟩) 6 6) ∧ w.heap.size ≤ g ∧ CrossFrom w' w.heap.size g ∧ Below w.heap.size w w' := by
  go_enter Tryz.func82, Tryz.ntmps82
  go_wp2_with fail
  refine (dfew_any _).mono ?_
  rintro e w1 ⟨rfl, r, hb⟩
  have R : Hid (Rd w1 (some ⟨w.heap.size, 0, none⟩) 3 dfew) := r
  have hs := hb.size
  have hlt : w.heap.size < w1.heap.size := by
    rcases r.2 with h | ⟨b, off, e, hl, _⟩
    · omega
    · cases e; exact hl
  clear r
  go_wp2
  go_ret
  have hbW := ((((hb.alloc hs (.cells #[.int .i64 0] 3)).alloc (by simp; omega) (.cells #[.int .i64 0] 3)).alloc (by simp; omega) (.cells #[.int .i64 1, .int .i64 2] 3)).alloc (by simp; omega) (.cells #[.int .i64 1, .int .i64 2] 3)).alloc (by simp; omega) (.cells (crossC w.heap.size w1.heap.size (w1.heap.size + 1) (w1.heap.size + 1 + 1) (w1.heap.size + 1 + 1 + 1)) 51)
  have hbR := (((((Below.refl w1.heap.size w1).alloc (Nat.le_refl _) (.cells #[.int .i64 0] 3)).alloc (by simp) (.cells #[.int .i64 0] 3)).alloc (by simp; omega) (.cells #[.int .i64 1, .int .i64 2] 3)).alloc (by simp; omega) (.cells #[.int .i64 1, .int .i64 2] 3)).alloc (by simp; omega) (.cells (crossC w.heap.size w1.heap.size (w1.heap.size + 1) (w1.heap.size + 1 + 1) (w1.heap.size + 1 + 1 + 1)) 51)
  refine ⟨w1.heap.size + 1 + 1 + 1 + 1, rfl, by omega, ⟨w.heap.size, w1.heap.size, w1.heap.size + 1, w1.heap.size + 1 + 1, w1.heap.size + 1 + 1 + 1, ?_, ⟨by omega, by omega⟩, ⟨by omega, by omega⟩, ⟨by omega, by omega⟩, ⟨by omega, by omega⟩, ⟨by omega, by omega⟩, R.out.below hbR (Nat.le_refl _), ⟨rfl, Or.inr ⟨_, 0, rfl, by simp <;> omega, fun i hi => ?_⟩⟩, ⟨rfl, Or.inr ⟨_, 0, rfl, by simp <;> omega, fun i hi => ?_⟩⟩, ⟨rfl, Or.inr ⟨_, 0, rfl, by simp <;> omega, fun i hi => ?_⟩⟩, ⟨rfl, Or.inr ⟨_, 0, rfl, by simp <;> omega, fun i hi => ?_⟩⟩⟩, hbW⟩
  · rw [show w1.heap.size + 1 + 1 + 1 + 1 = ((((w1.alloc (.cells #[.int .i64 0] 3)).alloc (.cells #[.int .i64 0] 3)).alloc (.cells #[.int .i64 1, .int .i64 2] 3)).alloc (.cells #[.int .i64 1, .int .i64 2] 3)).heap.size by simp]
    exact heap_alloc_new _ _
  · obtain rfl : i = 0 := by omega
    simp [go_sem]
  · obtain rfl : i = 0 := by omega
    simp [go_sem]
  · match i, hi with
    | 0, _ => simp [go_sem]
    | 1, _ => simp [go_sem]
  · match i, hi with
    | 0, _ => simp [go_sem]
    | 1, _ => simp [go_sem]

/-- Where a shop lies: its commits' row g, its heads' row h. -/
structure ShopAt (w : World) (lo g h : Nat) : Prop where
  cr : CrossFrom w lo g
  hd : w.heap[h]? = some (.cells #[.string sMain, .int .i64 3, .string sSide, .int .i64 1] 71 (0, 0))
  gh : g < h
  lg : lo ≤ g
theorem ShopAt.below {w w' : World} {lo g h : Nat} (S : ShopAt w lo g h) (hb : Below w.heap.size w w') : ShopAt w' lo g h := by
  have hlt := (Array.getElem?_eq_some_iff.1 S.hd).1
  exact ⟨S.cr.keep (fun k _ hk => hb.block k (by have := S.gh; omega)) hb.size, (hb.block h hlt).trans S.hd, S.gh, S.lg⟩
theorem hs_block {w : World} {h : Nat} {x y : ByteArray} {i j : Int} (hh : w.heap[h]? = some (.cells #[.string x, .int .i64 i, .string y, .int .i64 j] 71 (0, 0))) (hx : x.size ≤ 8) (hy : y.size ≤ 8) : Hs w (some ⟨h, 0, none⟩) 2 [(x, i), (y, j)] := by
  refine ⟨rfl, Or.inr ⟨h, 0, rfl, (Array.getElem?_eq_some_iff.1 hh).1, fun k hk => ?_⟩⟩
  rw [cell_of_row _ _ _ _ _ _ hh, cell_of_row _ _ _ _ _ _ hh]
  match k, hk with
  | 0, _ => exact ⟨rfl, rfl, by show x.size ≤ _; omega⟩
  | 1, _ => exact ⟨rfl, rfl, by show y.size ≤ _; omega⟩
theorem ShopAt.hs {w : World} {lo g h : Nat} (S : ShopAt w lo g h) : Hs w (some ⟨h, 0, none⟩) 2 shopH := hs_block S.hd (by decide) (by decide)
theorem ShopAt.cm {w : World} {lo g h : Nat} (S : ShopAt w lo g h) : Cm w (some ⟨g, 0, none⟩) 6 crossL := S.cr.at.cm

set_option maxHeartbeats 2000000 in
theorem shop_any (w : World) : Calls Tryz.prog 30 #[] w fun e w' => ∃ g h, e = .returned (.agg #[.slice (some ⟨g, 0, none⟩) 6 6, .slice (some ⟨h, 0, none⟩) 2 2]) ∧ ShopAt w' w.heap.size g h ∧ Below w.heap.size w w' := by
  obtain ⟨p, hp⟩ : ∃ p, p = w.heap.size := ⟨_, rfl⟩
  obtain ⟨W, hW⟩ : ∃ W, W = w.alloc (.cells #[.slice none 0 0, .slice none 0 0] 25) := ⟨_, rfl⟩
  have hb0 : Below w.heap.size w W := by rw [hW]; exact (Below.refl _ _).alloc (Nat.le_refl _) _
  have hWs : W.heap.size = p + 1 := by rw [hW, hp]; simp
  have hWp : W.heap[p]? = some (.cells #[.slice none 0 0, .slice none 0 0] 25 (0, 0)) := by rw [hW, hp]; exact heap_alloc_new _ _
  have HC : Hid (Calls Tryz.prog 82 #[] W fun e w' => ∃ g, e = .returned (.slice (some ⟨g, 0, none⟩) 6 6) ∧ W.heap.size ≤ g ∧ CrossFrom w' W.heap.size g ∧ Below W.heap.size W w') := crossF_any W
  have HW : Hid (W = w.alloc (.cells #[.slice none 0 0, .slice none 0 0] 25)) := hW
  have HP : Aside (p = w.heap.size) := hp
  clear hW hp
  go_enter Tryz.func30, Tryz.ntmps30
  go_wp2_with fail
  rw [← HW.out, ← HP.out]
  refine HC.out.mono ?_
  rintro e w1 ⟨g, rfl, hg, hcr, hb1⟩
  have hg1 := hcr.at.lt
  have hs1 := hb1.size
  have hp1 : w1.heap[p]? = some (.cells #[.slice none 0 0, .slice none 0 0] 25 (0, 0)) := (hb1.block p (by omega)).trans hWp
  have hp1l : p < w1.heap.size := by omega
  have j0 : w1.cell? ⟨p, 0, none⟩ = some (.slice none 0 0) := by rw [cell_of_row _ _ _ _ _ _ hp1]; rfl
  have j1 : w1.cell? ⟨p, 1, none⟩ = some (.slice none 0 0) := by rw [cell_of_row _ _ _ _ _ _ hp1]; rfl
  have f0 : w1.frozen? ⟨p, 0, none⟩ = false := frozen_of_row _ _ _ _ _ hp1
  have f1 : w1.frozen? ⟨p, 1, none⟩ = false := frozen_of_row _ _ _ _ _ hp1
  have hp3 := heap_setCell_same w1 p 0 _ _ (.slice (some ⟨g, 0, none⟩) 6 6) hp1
  have f2 : (w1.setCell ⟨p, 0, none⟩ (.slice (some ⟨g, 0, none⟩) 6 6)).frozen? ⟨p, 1, none⟩ = false := frozen_of_row _ _ _ _ _ hp3
  have f3 : ((w1.setCell ⟨p, 0, none⟩ (.slice (some ⟨g, 0, none⟩) 6 6)).alloc (.cells #[.string ⟨#[109, 97, 105, 110]⟩, .int .i64 3, .string ⟨#[115, 105, 100, 101]⟩, .int .i64 1] 71)).frozen? ⟨p, 1, none⟩ = false := frozen_of_row _ _ _ _ _ (by rw [Below.heap_alloc _ _ _ (by simp [World.setCell]; omega)]; exact hp3)
  have hp4 := heap_setCell_same _ p 1 _ _ (.slice (some ⟨w1.heap.size, 0, none⟩) 2 2) hp3
  obtain ⟨Y, hY⟩ : ∃ Y, Y = (w1.setCell ⟨p, 0, none⟩ (.slice (some ⟨g, 0, none⟩) 6 6)).setCell ⟨p, 1, none⟩ (.slice (some ⟨w1.heap.size, 0, none⟩) 2 2) := ⟨_, rfl⟩
  have hYk : ∀ k, k ≠ p → Y.heap[k]? = w1.heap[k]? := fun k hk => by rw [hY, heap_setCell_other _ _ _ _ (by exact hk), heap_setCell_other _ _ _ _ (by exact hk)]
  have hYs : Y.heap.size = w1.heap.size := by rw [hY]; simp [World.setCell]
  rw [← hY] at hp4
  obtain ⟨X, hX⟩ : ∃ X, X = Y.alloc (.cells #[.string ⟨#[109, 97, 105, 110]⟩, .int .i64 3, .string ⟨#[115, 105, 100, 101]⟩, .int .i64 1] 71) := ⟨_, rfl⟩
  have hXo : ∀ k, k < w1.heap.size → X.heap[k]? = Y.heap[k]? := fun k hk => by rw [hX]; exact Below.heap_alloc _ _ _ (by omega)
  have hXh : X.heap[w1.heap.size]? = some (.cells #[.string sMain, .int .i64 3, .string sSide, .int .i64 1] 71 (0, 0)) := by rw [hX, ← hYs]; exact heap_alloc_new _ _
  have hXp : X.heap[p]? = some (.cells #[.slice (some ⟨g, 0, none⟩) 6 6, .slice (some ⟨w1.heap.size, 0, none⟩) 2 2] 25 (0, 0)) := (hXo p hp1l).trans hp4
  have hXs : w1.heap.size ≤ X.heap.size := by rw [hX]; simp [hYs]
  have x0 : X.cell? ⟨p, 0, none⟩ = some (.slice (some ⟨g, 0, none⟩) 6 6) := by rw [cell_of_row _ _ _ _ _ _ hXp]; rfl
  have x1 : X.cell? ⟨p, 1, none⟩ = some (.slice (some ⟨w1.heap.size, 0, none⟩) 2 2) := by rw [cell_of_row _ _ _ _ _ _ hXp]; rfl
  have HE : Aside (ShopAt X p g w1.heap.size ∧ Below w.heap.size w X) := by
    have c1 : Below w.heap.size w w1 := hb0.trans (hb1.mono hb0.size)
    refine ⟨⟨?_, hXh, hg1, by omega⟩, ?_⟩
    · have h1 := hcr.keep (w' := X) (fun k h1 h2 => by rw [hXo k (by omega), hYk k (by omega)]) hXs
      obtain ⟨f, b1, b2, b3, b4, h1, k1, k2, k3, k4, k5, r⟩ := h1
      exact ⟨f, b1, b2, b3, b4, h1, ⟨by omega, k1.2⟩, ⟨by omega, k2.2⟩, ⟨by omega, k3.2⟩, ⟨by omega, k4.2⟩, ⟨by omega, k5.2⟩, r⟩
    · have c2 : Below w.heap.size w Y := by rw [hY]; exact (c1.setCell (p := ⟨p, 0, none⟩) (by show w.heap.size ≤ p; rw [HP.out]; exact Nat.le_refl _) _).setCell (p := ⟨p, 1, none⟩) (by show w.heap.size ≤ p; rw [HP.out]; exact Nat.le_refl _) _
      rw [hX]; exact c2.alloc (by rw [hYs]; exact c1.size) _
  have HX : Hid (X = ((w1.setCell ⟨p, 0, none⟩ (.slice (some ⟨g, 0, none⟩) 6 6)).setCell ⟨p, 1, none⟩ (.slice (some ⟨w1.heap.size, 0, none⟩) 2 2)).alloc (.cells #[.string ⟨#[109, 97, 105, 110]⟩, .int .i64 3, .string ⟨#[115, 105, 100, 101]⟩, .int .i64 1] 71)) := by rw [← hY]; exact hX
  rw [HP.out] at HE
  have HX0 : Aside (X.cell? ⟨p, 0, none⟩ = some (.slice (some ⟨g, 0, none⟩) 6 6)) := x0
  have HX1 : Aside (X.cell? ⟨p, 1, none⟩ = some (.slice (some ⟨w1.heap.size, 0, none⟩) 2 2)) := x1
  clear hX hY hp3 hp4 hXo hXh hXp hYk hYs hXs hp1 hWp hWs hcr x0 x1
  go_wp2
  rw [← HX.out]
  have x0 := HX0.out
  have x1 := HX1.out
  refine bodyPost_ret (v := .agg #[.slice (some ⟨g, 0, none⟩) 6 6, .slice (some ⟨w1.heap.size, 0, none⟩) 2 2]) (by simp [results, Tryz.results30, go_sem, x0, x1]) rfl ?_
  exact ⟨g, w1.heap.size, rfl, HE.out.1, HE.out.2⟩
end Go.Proofs.YtcgpgflnihjpiafGreat

/- What must be in any case of work: plain. -/
namespace Go.Proofs.YtcgpgflnihjpiafGreat
open Go.RowKit

def sNew : ByteArray := ⟨#[110, 101, 119]⟩
def chA : List M.Chg := [(7, 0, 4)]
def chB : List M.Chg := [(7, 1, 4)]
def aC : List M.Com := M.wpC crossL shopH sSide chA
def aH : List M.Hd := [(sMain, 3), (sSide, 6)]

def bH : List M.Hd := [(sMain, 3), (sNew, 1), (sSide, 1)]
def cH : List M.Hd := [(sSide, 1)]
def xH : List M.Hd := [(sMain, 3), (sSide, 3)]
theorem wb1c : M.wpC crossL shopH sSide chA = aC := rfl
theorem wb2c : M.wpC crossL shopH sSide chB = [] := by decide +kernel
theorem wb2h : M.wpH crossL shopH sSide chB = [] := by decide +kernel
theorem wb3c : M.brC crossL shopH sNew sSide = crossL := by decide +kernel
theorem wb4c : M.dropC crossL shopH sMain = crossL := by decide +kernel
theorem wb5h : M.joinH aC aH sMain sSide = [] := by decide +kernel
theorem wb6c : M.joinC crossL shopH sMain sSide = [] := by decide +kernel
theorem wb6h : M.joinH crossL shopH sMain sSide = [] := by decide +kernel
theorem wb6k : M.joinK crossL shopH sMain sSide = [] := by decide +kernel
theorem wb7c : M.joinC crossL shopH sSide sMain = crossL := by decide +kernel
theorem wb7k : M.joinK crossL shopH sSide sMain = [] := by decide +kernel
theorem wb8c : M.wpC crossL shopH sSide [] = [] := by decide +kernel
theorem wb8h : M.wpH crossL shopH sSide [] = [] := by decide +kernel
theorem wb1 : M.wpE crossL shopH sSide chA = 0 := by decide +kernel
theorem wb1l : aC.length = 7 := by decide +kernel
theorem wb1h : M.wpH crossL shopH sSide chA = aH := by decide +kernel
theorem wb1p : (aC.getD 6 ([], [])).2 = [1] := by decide +kernel
theorem wb2 : M.wpE crossL shopH sSide chB = 7 := by decide +kernel
theorem wb3 : M.brE crossL shopH sNew sSide = 0 := by decide +kernel
theorem wb3h : M.brH crossL shopH sNew sSide = bH := by decide +kernel
theorem wb4 : M.dropE crossL shopH sMain = 0 := by decide +kernel
theorem wb4h : M.dropH crossL shopH sMain = cH := by decide +kernel
theorem wb5 : M.joinE aC aH sMain sSide = 7 := by decide +kernel
theorem wb5k : M.joinK aC aH sMain sSide = [7] := by decide +kernel
theorem wb5c : M.joinC aC aH sMain sSide = [] := by decide +kernel
theorem wb6 : M.joinE crossL shopH sMain sSide = 9 := by decide +kernel
theorem wb7 : M.joinE crossL shopH sSide sMain = 0 := by decide +kernel
theorem wb7h : M.joinH crossL shopH sSide sMain = xH := by decide +kernel
theorem wb8 : M.wpE crossL shopH sSide [] = 9 := by decide +kernel

/-- A repo in a box of its own. -/
structure KBox (w : World) (p : Nat) (a : Option Addr) (n cap : Nat) (C : List M.Com) (a2 : Option Addr) (n2 cap2 : Nat) (H : List M.Hd) : Prop where
  c0 : w.cell? ⟨p, 0, none⟩ = some (.slice a n cap)
  c1 : w.cell? ⟨p, 1, none⟩ = some (.slice a2 n2 cap2)
  lt : p < w.heap.size
  v : RepoV w a n cap C a2 n2 cap2 H
theorem KBox.later {w w' : World} {p : Nat} {a : Option Addr} {n cap : Nat} {C : List M.Com} {a2 : Option Addr} {n2 cap2 : Nat} {H : List M.Hd} (h : KBox w p a n cap C a2 n2 cap2 H) (hb : Below w.heap.size w w') : KBox w' p a n cap C a2 n2 cap2 H :=
  ⟨(hb.cell (p := ⟨p, 0, none⟩) h.lt).trans h.c0, (hb.cell (p := ⟨p, 1, none⟩) h.lt).trans h.c1, Nat.lt_of_lt_of_le h.lt hb.size, h.v.later hb⟩
theorem KBox.new {w : World} {a : Option Addr} {n cap : Nat} {C : List M.Com} {a2 : Option Addr} {n2 cap2 : Nat} {H : List M.Hd} (h : RepoV w a n cap C a2 n2 cap2 H) : KBox (w.alloc (.cells #[.slice a n cap, .slice a2 n2 cap2] 25)) w.heap.size a n cap C a2 n2 cap2 H :=
  ⟨by simp [go_sem], by simp [go_sem], by simp, h.later ((Below.refl _ _).alloc (Nat.le_refl _) _)⟩
theorem KBox.head {w : World} {p : Nat} {a : Option Addr} {n cap : Nat} {C : List M.Com} {a2 : Option Addr} {n2 cap2 : Nat} {H : List M.Hd} (h : KBox w p a n cap C a2 n2 cap2 H) (i : Nat) (hi : i < n2) : ∃ b off, a2 = some ⟨b, off, none⟩ ∧ w.cell? ⟨b, off + i * 2, none⟩ = some (.string (H.getD i M.hd0).1) ∧ w.cell? ⟨b, off + (i * 2 + 1), none⟩ = some (.int .i64 (H.getD i M.hd0).2) := by
  rcases h.v.hs.2 with h0 | ⟨b, off, e, _, hc⟩
  · omega
  · exact ⟨b, off, e, (hc i hi).1, (hc i hi).2.1⟩
theorem KBox.par {w : World} {p : Nat} {a : Option Addr} {n cap : Nat} {C : List M.Com} {a2 : Option Addr} {n2 cap2 : Nat} {H : List M.Hd} (h : KBox w p a n cap C a2 n2 cap2 H) (i : Nat) (hi : i < n) : ∃ b off x1 n1 c1 x2 m2 c2, a = some ⟨b, off, none⟩ ∧ w.cell? ⟨b, off + i * 2, none⟩ = some (.slice x1 n1 c1) ∧ w.cell? ⟨b, off + (i * 2 + 1), none⟩ = some (.slice x2 m2 c2) ∧ Ri w x2 m2 (C.getD i ([], [])).2 ∧ m2 ≤ 9223372036854775807 := by
  rcases h.v.cm.2 with h0 | ⟨b, off, e, _, hc⟩
  · omega
  · obtain ⟨x1, n1, c1, x2, m2, c2, h1, h2, _, h4, _, h6⟩ := hc i hi
    exact ⟨b, off, x1, n1, c1, x2, m2, c2, e, h1, h2, h4, h6⟩
end Go.Proofs.YtcgpgflnihjpiafGreat

/- SameInts. -/
namespace Go.Proofs.YtcgpgflnihjpiafGreat
open Go.RowKit

theorem iret_no {p : Prop} [Decidable p] (h : ¬ p) : Ending.returned (.bool false) = .returned (.bool (decide p)) := by rw [decide_eq_false h]
theorem iret_yes {p : Prop} [Decidable p] (h : p) : Ending.returned (.bool true) = .returned (.bool (decide p)) := by rw [decide_eq_true h]

/-! ### SameInts -/
theorem isame_len (a a2 : Option Addr) (n n2 cap cap2 : Nat) (w : World) (h : n ≠ n2) :
    Calls Tryz.prog 31 #[.slice a n cap, .slice a2 n2 cap2] w fun e w' => e = .returned (.bool false) ∧ w' = w := by
  have hb : ((n : Int) != (n2 : Int)) = true := by simp; omega
  go_enter Tryz.func31, Tryz.ntmps31
  go_wp2
  go_ret
  exact ⟨rfl, rfl⟩
theorem isame_none (a a2 : Option Addr) (cap cap2 : Nat) (w : World) :
    Calls Tryz.prog 31 #[.slice a 0 cap, .slice a2 0 cap2] w fun e w' => e = .returned (.bool true) ∧ w' = w := by
  go_enter Tryz.func31, Tryz.ntmps31
  go_wp2
  refine wp_loop_rounds 1 ?_
  rw [rounds_succ]
  go_wp2
  go_ret
  exact ⟨rfl, rfl⟩
set_option maxHeartbeats 2000000 in
theorem isame_some (b off b2 off2 n cap cap2 : Nat) (l l2 : List Int) (w : World) (hm : n ≤ 9223372036854775807) (hl : l.length = n) (hl2 : l2.length = n)
    (hc : ∀ i, i < n → w.cell? ⟨b, off + i, none⟩ = some (.int .i64 (l.getD i 0)))
    (hc2 : ∀ i, i < n → w.cell? ⟨b2, off2 + i, none⟩ = some (.int .i64 (l2.getD i 0))) :
    Calls Tryz.prog 31 #[.slice (some ⟨b, off, none⟩) n cap, .slice (some ⟨b2, off2, none⟩) n cap2] w fun e w' => e = .returned (.bool (decide (l = l2))) ∧ ∃ m, w' = w.drewN m := by
  have HC : Aside (∀ i, i < n → w.cell? ⟨b, off + i, none⟩ = some (.int .i64 (l.getD i 0))) := hc
  have HC2 : Aside (∀ i, i < n → w.cell? ⟨b2, off2 + i, none⟩ = some (.int .i64 (l2.getD i 0))) := hc2
  have HL : Aside (l.length = n) := hl
  have HL2 : Aside (l2.length = n) := hl2
  clear hc hl hc2 hl2
  go_enter Tryz.func31, Tryz.ntmps31
  go_wp2
  go_loopg [5] n (fun g i wr => ∃ k m : Nat, k + g = n ∧ i = .int .i64 k ∧ wr = w.drewN m ∧ Aside (l.drop k = l2.drop k ↔ l = l2))
  case atStart => exact ⟨0, 0, by omega, rfl, rfl, by simp [Aside]⟩
  case round =>
    obtain ⟨k, m, hk, rfl, rfl, A⟩ := hrel
    by_cases hlt : k < n
    · obtain ⟨x, hx⟩ : ∃ x, l.getD k 0 = x := ⟨_, rfl⟩
      obtain ⟨y, hy⟩ : ∃ y, l2.getD k 0 = y := ⟨_, rfl⟩
      have c0 : w.cell? ⟨b, off + k, none⟩ = some (.int .i64 x) := by rw [HC.out k hlt, hx]
      have d0 : w.cell? ⟨b2, off2 + k, none⟩ = some (.int .i64 y) := by rw [HC2.out k hlt, hy]
      have ed : (l.drop k = l2.drop k) ↔ x = y ∧ l.drop (k + 1) = l2.drop (k + 1) := by
        rw [M.idrop l k (by rw [HL.out]; exact hlt), M.idrop l2 k (by rw [HL2.out]; exact hlt), List.cons.injEq, hx, hy]
      rw [A.out] at ed
      have ED : Aside (l = l2 ↔ x = y ∧ l.drop (k + 1) = l2.drop (k + 1)) := ed
      clear hx hy ed A
      have hki : (k : Int) < (n : Int) := by omega
      by_cases hxy : x = y
      · have hxb : (x == y) = true := by simp [hxy]
        have A1 : Aside (l.drop (k + 1) = l2.drop (k + 1) ↔ l = l2) := by unfold Aside; rw [ED.out]; simp [hxy]
        clear hxy
        go_wp2_with fail
        go_quiet (fail)
        go_wp2
        go_roundg (gk - 1)
        case measure => omega
        case rel => exact ⟨k + 1, m + nq, by omega, by go_num, rfl, A1⟩
      · have hxb : (x == y) = false := by simp [hxy]
        have A1 : Aside (l ≠ l2) := by unfold Aside; intro e; exact hxy (ED.out.1 e).1
        clear hxy
        go_wp2_with fail
        go_quiet (fail)
        go_wp2
        go_ret
        exact ⟨iret_no A1.out, m + nq, World.drewN_drewN _ _ _⟩
    · go_wp2
      go_ret
      exact ⟨iret_yes (A.out.1 (by rw [List.drop_eq_nil_of_le (by rw [HL.out]; omega), List.drop_eq_nil_of_le (by rw [HL2.out]; omega)])), m, rfl⟩
theorem isame_any (a a2 : Option Addr) (n n2 cap cap2 : Nat) (l l2 : List Int) (w : World) (h : Ri w a n l) (h2 : Ri w a2 n2 l2) (hm : n ≤ 9223372036854775807) :
    Calls Tryz.prog 31 #[.slice a n cap, .slice a2 n2 cap2] w fun e w' => e = .returned (.bool (decide (l = l2))) ∧ Below w.heap.size w w' := by
  by_cases hn : n = n2
  · subst hn
    rcases h.cases with ⟨rfl, rfl⟩ | ⟨b, off, rfl, hn, hl, hB, hc⟩
    · have e2 : l2 = [] := List.eq_nil_of_length_eq_zero h2.1
      subst e2
      refine (isame_none a a2 cap cap2 w).mono ?_
      rintro e w' ⟨rfl, rfl⟩
      exact ⟨rfl, Below.refl _ _⟩
    · rcases h2.cases with ⟨rfl, rfl⟩ | ⟨b2, off2, rfl, hn2, hl2, hB2, hc2⟩
      · omega
      · refine (isame_some b off b2 off2 n cap cap2 l l2 w hm hl hl2 hc hc2).mono ?_
        rintro e w' ⟨rfl, m, rfl⟩
        exact ⟨rfl, below_drewN (Below.refl _ _) m⟩
  · refine (isame_len a a2 n n2 cap cap2 w hn).mono ?_
    rintro e w' ⟨rfl, rfl⟩
    exact ⟨iret_no (fun e => hn (by rw [← h.1, ← h2.1, e])), Below.refl _ _⟩

end Go.Proofs.YtcgpgflnihjpiafGreat

/- SameRepos, of two that are the same. -/
namespace Go.Proofs.YtcgpgflnihjpiafGreat
open Go.RowKit

theorem same_yes (a a2 : Option Addr) (n cap cap2 : Nat) (l : List (Int × Int)) (w : World) (h : Rd w a n l) (h2 : Rd w a2 n l) (hm : n ≤ 9223372036854775807) :
    Calls Tryz.prog 18 #[.slice a n cap, .slice a2 n cap2] w fun e w' => e = .returned (.bool true) ∧ ∃ m, w' = w.drewN m := by
  rcases h.cases with ⟨rfl, rfl⟩ | ⟨b, off, rfl, hn, hl, hB, hc⟩
  · refine (same_none a a2 cap cap2 w).mono ?_
    rintro e w' ⟨rfl, rfl⟩
    exact ⟨rfl, 0, rfl⟩
  · rcases h2.cases with ⟨rfl, rfl⟩ | ⟨b2, off2, rfl, hn2, hl2, hB2, hc2⟩
    · omega
    · refine (same_some b off b2 off2 n cap cap2 l l w hm hl hl2 hc hc2).mono ?_
      rintro e w' ⟨rfl, m, rfl⟩
      exact ⟨ret_bool (by simp), m, rfl⟩
theorem isame_yes (a a2 : Option Addr) (n cap cap2 : Nat) (l : List Int) (w : World) (h : Ri w a n l) (h2 : Ri w a2 n l) (hm : n ≤ 9223372036854775807) :
    Calls Tryz.prog 31 #[.slice a n cap, .slice a2 n cap2] w fun e w' => e = .returned (.bool true) ∧ ∃ m, w' = w.drewN m := by
  rcases h.cases with ⟨rfl, rfl⟩ | ⟨b, off, rfl, hn, hl, hB, hc⟩
  · refine (isame_none a a2 cap cap2 w).mono ?_
    rintro e w' ⟨rfl, rfl⟩
    exact ⟨rfl, 0, rfl⟩
  · rcases h2.cases with ⟨rfl, rfl⟩ | ⟨b2, off2, rfl, hn2, hl2, hB2, hc2⟩
    · omega
    · refine (isame_some b off b2 off2 n cap cap2 l l w hm hl hl2 hc hc2).mono ?_
      rintro e w' ⟨rfl, m, rfl⟩
      exact ⟨ret_bool (by simp), m, rfl⟩

theorem Cm.at {w : World} {a : Option Addr} {n : Nat} {L : List M.Com} (h : Cm w a n L) {k : Nat} (hk : k < n) : ∃ b off, a = some ⟨b, off, none⟩ ∧ ∃ a1 n1 c1 a2 n2 c2, w.cell? ⟨b, off + k * 2, none⟩ = some (.slice a1 n1 c1) ∧ w.cell? ⟨b, off + k * 2 + 1, none⟩ = some (.slice a2 n2 c2) ∧ Rd w a1 n1 (L.getD k ([], [])).1 ∧ Ri w a2 n2 (L.getD k ([], [])).2 ∧ n1 ≤ 9223372036854775807 ∧ n2 ≤ 9223372036854775807 := by
  rcases h.cases with ⟨h0, _⟩ | ⟨b, off, e, _, _, _, hc⟩
  · omega
  · exact ⟨b, off, e, hc k hk⟩
theorem Hs.at {w : World} {a : Option Addr} {n : Nat} {H : List M.Hd} (h : Hs w a n H) {k : Nat} (hk : k < n) : ∃ b off, a = some ⟨b, off, none⟩ ∧ w.cell? ⟨b, off + k * 2, none⟩ = some (.string (H.getD k M.hd0).1) ∧ w.cell? ⟨b, off + k * 2 + 1, none⟩ = some (.int .i64 (H.getD k M.hd0).2) := by
  rcases h.cases with ⟨h0, _⟩ | ⟨b, off, e, _, _, _, hc⟩
  · omega
  · exact ⟨b, off, e, (hc k hk).1, (hc k hk).2.1⟩

set_option maxHeartbeats 8000000 in
theorem srepos_yes (a a' : Option Addr) (n cap cap' : Nat) (C : List M.Com) (a2 a2' : Option Addr) (n2 cap2 cap2' : Nat) (H : List M.Hd) (w : World) (hC : Cm w a n C) (hC' : Cm w a' n C) (hn : n ≤ 9223372036854775807) (hH : Hs w a2 n2 H) (hH' : Hs w a2' n2 H) (hn2 : n2 ≤ 9223372036854775807) :
    Calls Tryz.prog 12 #[.agg #[.slice a n cap, .slice a2 n2 cap2], .agg #[.slice a' n cap', .slice a2' n2 cap2']] w fun e w' => e = .returned (.bool true) ∧ Below w.heap.size w w' := by
  obtain ⟨p, hp⟩ : ∃ p, p = w.heap.size := ⟨_, rfl⟩
  have I0 := InBox.new w a n cap C a2 n2 cap2 H hC hH
  have hb0 : Below w.heap.size w (w.alloc (.cells #[.slice a n cap, .slice a2 n2 cap2] 25)) := (Below.refl _ _).alloc (Nat.le_refl _) _
  have I1 := InBox.new (w.alloc (.cells #[.slice a n cap, .slice a2 n2 cap2] 25)) a' n cap' C a2' n2 cap2' H (hC'.below hb0 (Nat.le_refl _)) (hH'.below hb0 (Nat.le_refl _))
  obtain ⟨W, hW⟩ : ∃ W, W = (w.alloc (.cells #[.slice a n cap, .slice a2 n2 cap2] 25)).alloc (.cells #[.slice a' n cap', .slice a2' n2 cap2'] 25) := ⟨_, rfl⟩
  have I0 := I0.below (w' := W) (by rw [hW]; exact (Below.refl _ _).alloc (Nat.le_refl _) _)
  have hb : Below w.heap.size w W := by rw [hW]; exact hb0.alloc (by simp) _
  rw [show (w.alloc (.cells #[.slice a n cap, .slice a2 n2 cap2] 25)).heap.size = p + 1 by rw [hp]; simp, ← hW] at I1
  rw [← hp] at I0
  have q0 := I0.c0
  have q1 := I0.c1
  have r0 := I1.c0
  have r1 := I1.c1
  have HI0 : Aside (InBox W p a n cap C a2 n2 cap2 H) := I0
  have HI1 : Aside (InBox W (p + 1) a' n cap' C a2' n2 cap2' H) := I1
  have HW : Hid (W = (w.alloc (.cells #[.slice a n cap, .slice a2 n2 cap2] 25)).alloc (.cells #[.slice a' n cap', .slice a2' n2 cap2'] 25)) := hW
  have HP : Aside (p = w.heap.size) := hp
  clear hW hp I0 I1 hC hH hC' hH' hb0
  go_enter Tryz.func12, Tryz.ntmps12
  go_wp2_with fail
  rw [← HW.out, ← HP.out]
  go_wp2
  go_loopg [5] n (fun g i wr => ∃ k : Nat, k + g = n ∧ i = .int .i64 k ∧ Below W.heap.size W wr)
  case atStart => exact ⟨0, by omega, rfl, Below.refl _ _⟩
  case round =>
    obtain ⟨k, hk, rfl, hbel⟩ := hrel
    have J0 := HI0.out.below hbel
    have J1 := HI1.out.below hbel
    have f0 := J0.c0
    have f1 := J1.c0
    by_cases hlt : k < n
    · obtain ⟨b, off, rfl, a1, n1, c1, a3, n3, c3, t0, t1, s0, s1, m0, m1⟩ := J0.cm.at hlt
      obtain ⟨b', off', rfl, a1', n1', c1', a3', n3', c3', t0', t1', s0', s1', m0', m1'⟩ := J1.cm.at hlt
      obtain rfl : n1 = n1' := by rw [← s0.1, ← s0'.1]
      obtain rfl : n3 = n3' := by rw [← s1.1, ← s1'.1]
      have HS1 : Hid (∀ m, Calls Tryz.prog 18 #[.slice a1 n1 c1, .slice a1' n1 c1'] (wr.drewN m) fun e w' => e = .returned (.bool true) ∧ ∃ m', w' = (wr.drewN m).drewN m') := fun m => same_yes a1 a1' n1 c1 c1' _ (wr.drewN m) (s0.below (drewN_below wr m) (Nat.le_refl _)) (s0'.below (drewN_below wr m) (Nat.le_refl _)) m0
      have HS2 : Hid (∀ m, Calls Tryz.prog 31 #[.slice a3 n3 c3, .slice a3' n3 c3'] (wr.drewN m) fun e w' => e = .returned (.bool true) ∧ ∃ m', w' = (wr.drewN m).drewN m') := fun m => isame_yes a3 a3' n3 c3 c3' _ (wr.drewN m) (s1.below (drewN_below wr m) (Nat.le_refl _)) (s1'.below (drewN_below wr m) (Nat.le_refl _)) m1
      have hki : (k : Int) < (n : Int) := by omega
      clear s0 s1 s0' s1' J0 J1 q0 q1 r0 r1
      go_wp2_with fail
      go_quiet ((first | (go_at_call 18; exact Calls.quiet_of (HS1.out _)) | (go_at_call 31; exact Calls.quiet_of (HS2.out _))))
      go_wp2
      go_roundg (gk - 1)
      case measure => omega
      case rel => exact ⟨k + 1, by omega, by go_num, below_drewN hbel _⟩
    · have hkk : decide ((k : Int) < (n : Int)) = false := by simp; omega
      obtain ⟨V, hV⟩ : ∃ V, V = wr := ⟨_, rfl⟩
      rw [← hV] at J0 J1 f0 f1 hbel ⊢
      have g0 := J0.c1
      have g1 := J1.c1
      have HJ0 : Aside (InBox V p a n cap C a2 n2 cap2 H) := J0
      have HJ1 : Aside (InBox V (p + 1) a' n cap' C a2' n2 cap2' H) := J1
      have hbw : Below w.heap.size w V := hb.trans (hbel.mono hb.size)
      clear hV J0 J1 q0 q1 r0 r1
      go_wp2
      go_loopg [6] n2 (fun g i wr => ∃ k : Nat, k + g = n2 ∧ i = .int .i64 k ∧ Below V.heap.size V wr)
      case atStart => exact ⟨0, by omega, rfl, Below.refl _ _⟩
      case round =>
        obtain ⟨k, hk, rfl, hbel⟩ := hrel
        have J0 := HJ0.out.below hbel
        have J1 := HJ1.out.below hbel
        have h0 := J0.c1
        have h1 := J1.c1
        by_cases hlt : k < n2
        · obtain ⟨b, off, rfl, t0, t1⟩ := J0.hs.at hlt
          obtain ⟨b', off', rfl, t0', t1'⟩ := J1.hs.at hlt
          obtain ⟨x, hx⟩ : ∃ x, x = H.getD k M.hd0 := ⟨_, rfl⟩
          rw [← hx] at t0 t1 t0' t1'
          have hki : (k : Int) < (n2 : Int) := by omega
          clear hx J0 J1 g0 g1 f0 f1
          go_wp2_with fail
          go_quiet (fail)
          go_wp2
          go_roundg (gk - 1)
          case measure => omega
          case rel => exact ⟨k + 1, by omega, by go_num, below_drewN hbel _⟩
        · have hkk : decide ((k : Int) < (n2 : Int)) = false := by simp; omega
          go_wp2
          go_ret
          exact ⟨rfl, hbw.trans (hbel.mono hbw.size)⟩
end Go.Proofs.YtcgpgflnihjpiafGreat
