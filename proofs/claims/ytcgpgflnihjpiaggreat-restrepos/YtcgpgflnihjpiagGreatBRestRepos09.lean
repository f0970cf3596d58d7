/- LayH. -/
import Derived.Test.YtcgpgflnihjpiagGreatChecked
import Derived.Shelf.SlSortCmp.SmallK
import Derived.Test.YtcgpgflnihjpiagGreatBRestRepos04
import Derived.Test.YtcgpgflnihjpiagGreatBRestRepos08
import Derived.Lib.RowBridge
import Derived.Test.YtcgpgflnihjpiagGreatBRestRepos05
import Derived.Test.YtcgpgflnihjpiagGreatBRestRepos01
import Derived.Test.YtcgpgflnihjpiagGreatBRestRepos02
namespace Go.Proofs.YtcgpgflnihjpiagGreat
open Go.Shelf
def sortH_ren : Go.Shelf.Ren := ⟨fun | 6 => 80 | 15 => 117 | 14 => 116 | 28 => 142 | 29 => 143 | 20 => 134 | 21 => 135 | 22 => 136 | 23 => 137 | 24 => 138 | 25 => 139 | 26 => 140 | 27 => 141 | 46 => 154 | 47 => 155 | 48 => 156 | 49 => 157 | 50 => 158 | 57 => 166 | n => n, fun | 22 => 33 | 24 => 58 | 25 => 123 | 3 => 3 | 39 => 156 | 0 => 0 | 53 => 186 | 55 => 188 | 4 => 4 | 46 => 179 | 45 => 178 | 50 => 183 | 5 => 5 | 9 => 9 | 66 => 199 | 70 => 203 | 76 => 208 | 77 => 209 | n => n, fun | n => n⟩
theorem sortH : Go.Proofs.SlLaysF0.n6 Tryz.prog sortH_ren := {
  mixed := by kernel_rfl,
  f6 := ⟨Tryz.f80.name, by decide, Tryz.func80.trans (congrArg some (by kernel_rfl))⟩,
  f14 := ⟨Tryz.f116.name, by decide, Tryz.func116.trans (congrArg some (by kernel_rfl))⟩,
  f15 := Tryz.func117.trans (congrArg some (by kernel_rfl)),
  f20 := ⟨Tryz.f134.name, by decide, Tryz.func134.trans (congrArg some (by kernel_rfl))⟩,
  f21 := ⟨Tryz.f135.name, by decide, Tryz.func135.trans (congrArg some (by kernel_rfl))⟩,
  f22 := ⟨Tryz.f136.name, by decide, Tryz.func136.trans (congrArg some (by kernel_rfl))⟩,
  f23 := ⟨Tryz.f137.name, by decide, Tryz.func137.trans (congrArg some (by kernel_rfl))⟩,
  f24 := ⟨Tryz.f138.name, by decide, Tryz.func138.trans (congrArg some (by kernel_rfl))⟩,
  f25 := ⟨Tryz.f139.name, by decide, Tryz.func139.trans (congrArg some (by kernel_rfl))⟩,
  f26 := ⟨Tryz.f140.name, by decide, Tryz.func140.trans (congrArg some (by kernel_rfl))⟩,
  f27 := ⟨Tryz.f141.name, by decide, Tryz.func141.trans (congrArg some (by kernel_rfl))⟩,
  f28 := Tryz.func142.trans (congrArg some (by kernel_rfl)),
  f29 := Tryz.func143.trans (congrArg some (by kernel_rfl)),
  f46 := ⟨Tryz.f154.name, by decide, Tryz.func154.trans (congrArg some (by kernel_rfl))⟩,
  f47 := Tryz.func155.trans (congrArg some (by kernel_rfl)),
  f48 := Tryz.func156.trans (congrArg some (by kernel_rfl)),
  f49 := ⟨Tryz.f157.name, by decide, Tryz.func157.trans (congrArg some (by kernel_rfl))⟩,
  f50 := ⟨Tryz.f158.name, by decide, Tryz.func158.trans (congrArg some (by kernel_rfl))⟩,
  f57 := ⟨Tryz.f166.name, by decide, Tryz.func166.trans (congrArg some (by kernel_rfl))⟩,
  t0 := Tryz.underlying0,
  a0 := Tryz.isAgg0,
  z0 := Tryz.sizeOf0,
  v0 := Tryz.zeroValue0,
  t3 := Tryz.underlying3,
  a3 := Tryz.isAgg3,
  z3 := Tryz.sizeOf3,
  v3 := Tryz.zeroValue3,
  t4 := Tryz.underlying4,
  a4 := Tryz.isAgg4,
  z4 := Tryz.sizeOf4,
  v4 := Tryz.zeroValue4,
  t5 := Tryz.underlying5,
  a5 := Tryz.isAgg5,
  z5 := Tryz.sizeOf5,
  v5 := Tryz.zeroValue5,
  t9 := Tryz.underlying9,
  a9 := Tryz.isAgg9,
  z9 := Tryz.sizeOf9,
  v9 := Tryz.zeroValue9,
  t22 := Tryz.underlying33,
  a22 := Tryz.isAgg33,
  z22 := Tryz.sizeOf33,
  v22 := Tryz.zeroValue33,
  t25 := Tryz.underlying123,
  a25 := Tryz.isAgg123,
  z25 := Tryz.sizeOf123,
  v25 := Tryz.zeroValue123,
  t39 := Tryz.underlying156,
  a39 := Tryz.isAgg156,
  z39 := Tryz.sizeOf156,
  v39 := Tryz.zeroValue156,
  t45 := Tryz.underlying178,
  a45 := Tryz.isAgg178,
  z45 := Tryz.sizeOf178,
  v45 := Tryz.zeroValue178,
  t46 := Tryz.underlying179,
  a46 := Tryz.isAgg179,
  z46 := Tryz.sizeOf179,
  v46 := Tryz.zeroValue179,
  t50 := Tryz.underlying183,
  a50 := Tryz.isAgg183,
  z50 := Tryz.sizeOf183,
  v50 := Tryz.zeroValue183,
  t53 := Tryz.underlying186,
  a53 := Tryz.isAgg186,
  z53 := Tryz.sizeOf186,
  v53 := Tryz.zeroValue186,
  t55 := Tryz.underlying188,
  a55 := Tryz.isAgg188,
  z55 := Tryz.sizeOf188,
  v55 := Tryz.zeroValue188,
  t66 := Tryz.underlying199,
  a66 := Tryz.isAgg199,
  z66 := Tryz.sizeOf199,
  v66 := Tryz.zeroValue199,
  t70 := Tryz.underlying203,
  a70 := Tryz.isAgg203,
  z70 := Tryz.sizeOf203,
  v70 := Tryz.zeroValue203,
  t76 := Tryz.underlying208,
  a76 := Tryz.isAgg208,
  z76 := Tryz.sizeOf208,
  v76 := Tryz.zeroValue208,
  t77 := Tryz.underlying209,
  a77 := Tryz.isAgg209,
  z77 := Tryz.sizeOf209,
  v77 := Tryz.zeroValue209 }
end Go.Proofs.YtcgpgflnihjpiagGreat
namespace Go.Proofs.YtcgpgflnihjpiagGreat
open Go.RowKit Go.Shelf Go.Sort
set_option maxHeartbeats 4000000 in
set_option maxRecDepth 100000 in
theorem len64_few (x : Int) (w : World) (h0 : 0 ≤ x) (h1 : x ≤ 12) :
    Calls Tryz.prog 143 #[.int .u64 x] w fun e w' => (∃ l : Int, e = .returned (.int .i64 l)) ∧ w' = w := by
  have hz : Lib.len8tab.size = 256 := by kernel_rfl
  have g1 : ¬ (4294967296 : Int) ≤ x := by omega
  have g2 : ¬ (65536 : Int) ≤ x := by omega
  have g3 : ¬ (256 : Int) ≤ x := by omega
  have g4 : x < (Lib.len8tab.size : Int) := by rw [hz]; omega
  go_enter Tryz.func143, Tryz.ntmps143
  go_wp2
  all_goals (go_ret; exact ⟨⟨_, rfl⟩, rfl⟩)
theorem len_few (n : Nat) (w : World) (hn : n ≤ 12) :
    Calls Tryz.prog 117 #[.int .u64 n] w fun e w' => (∃ l : Int, e = .returned (.int .i64 l)) ∧ w' = w := by
  obtain ⟨x, hx⟩ : ∃ x : Int, x = n := ⟨_, rfl⟩
  have h0 : 0 ≤ x := by omega
  have h1 : x ≤ 12 := by omega
  rw [← hx]
  clear hx hn
  go_enter Tryz.func117, Tryz.ntmps117
  go_wp2_with (go_at_call 143; refine (len64_few x _ h0 h1).mono ?_; rintro e w' ⟨⟨l, rfl⟩, rfl⟩)
  go_ret
  exact ⟨⟨_, rfl⟩, rfl⟩
def encA (h : M.Hd) : List Value := [.string h.1, .int .i64 h.2]
theorem flat_encH (l : List M.Hd) : (flatK encA 2 l.toArray).toList = encH l := by
  apply List.ext_getElem?
  intro t
  by_cases h : t < l.length * 2
  · have e1 : (flatK encA 2 l.toArray).toList[t]? = some ((encA (l.getD (t / 2) M.hd0))[t % 2]!) := by
      have h2 : t / 2 < l.length := by omega
      rw [Array.getElem?_toList, Array.getElem?_eq_getElem (by simpa using h)]
      congr 1
      have := get_flatK encA 2 l.toArray t (by simpa using h)
      rw [getElem!_pos _ t (by simpa using h)] at this
      rw [this]
      simp [List.getD, h2]
    rw [e1]
    rcases Nat.mod_two_eq_zero_or_one t with h0 | h1
    · rw [h0]
      obtain ⟨i, rfl⟩ : ∃ i, t = i * 2 := ⟨t / 2, by omega⟩
      rw [encH_name l i (by omega), show i * 2 / 2 = i by omega]
      rfl
    · rw [h1]
      obtain ⟨i, rfl⟩ : ∃ i, t = i * 2 + 1 := ⟨t / 2, by omega⟩
      rw [encH_at l i (by omega), show (i * 2 + 1) / 2 = i by omega]
      rfl
  · rw [List.getElem?_eq_none (by simp; omega), List.getElem?_eq_none (by rw [encH_length]; omega)]
theorem OwnH.holds {w : World} {base g n cap : Nat} {H : List M.Hd} (h : OwnH w base (.slice (some ⟨g, 0, none⟩) n cap) H) : HoldsK encA 2 w g 0 H.toArray := by
  intro j hj
  simp only [size_flatK] at hj
  rw [Nat.zero_add]
  refine h.cellsAt j _ ?_
  rw [← flat_encH, Array.getElem?_toList, Array.getElem?_eq_getElem (by simpa using hj), getElem!_pos _ j (by simpa using hj)]
  rfl
theorem hsort_any (base g cap : Nat) (H : List M.Hd) (x : M.Hd) (w : World) (hH : OwnH w base (.slice (some ⟨g, 0, none⟩) (H ++ [x]).length cap) (H ++ [x])) (hcp : (H ++ [x]).length ≤ cap) (hr : M.rise H = true) (h1 : 1 ≤ H.length) (h3 : H.length ≤ 3) :
    Calls Tryz.prog 80 #[.slice (some ⟨g, 0, none⟩) (H ++ [x]).length cap, .func (.func 81) #[] #[]] w fun e w' => e = .returned (.tuple #[]) ∧ OwnH w' base (.slice (some ⟨g, 0, none⟩) (H ++ [x]).length cap) (M.insH x H) ∧ w.grownBy w' (some g) := by
  have hblk : g < w.heap.size := World.block_lt_of_cell? w ⟨g, 0, none⟩ (hH.cellsAt 0 _ (List.getElem?_eq_getElem (by rw [encH_length]; simp))).1
  have hcmp : CmpLays Tryz.prog 81 #[] encA 2 M.cmpH g 0 (H ++ [x]).toArray.size w := by
    intro m os dk _ u v
    refine (branch4_any u v _).mono ?_
    rintro e w' ⟨rfl, rfl⟩
    refine ⟨rfl, 0, #[.cells #[.string u.1, .int .i64 u.2] 58, .cells #[.string v.1, .int .i64 v.2] 58], ?_⟩
    rw [alloc_eq_grow, alloc_eq_grow, grow_grow]
    rfl
  have K := AnyQ.slices_SortFunc_small sortH 2 (fun w => by kernel_rfl) (fun w => by kernel_rfl) encA (fun _ => rfl) (fun u v hv => by simp [encA] at hv; rcases hv with rfl | rfl <;> rfl) M.cmpH 81 #[] g 0 cap (H ++ [x]).toArray w (enters_of Tryz.func81 (by kernel_rfl) rfl) hcmp hH.holds hblk (by simp; omega) (fun n W hn => len_few n W hn)
  rw [M.ins_all H x hr h1 h3] at K
  have hins := M.insH_len x H
  refine K.mono ?_
  rintro e w' ⟨rfl, n, os, rfl⟩
  refine ⟨rfl, ?_⟩
  unfold sortWorldK putRowK
  have hys := Lib.putRow_eq_setCells id w g 0 (flatK encA 2 (H ++ [x]).toArray) (encH (M.insH x H)) n hH.holds (by rw [encH_length]; simp; omega)
  rw [← flat_encH, List.map_id, Array.toArray_toList] at hys
  rw [hys]
  have e1 : OwnH ((w.drewN n).setCells g 0 (flatK encA 2 (M.insH x H).toArray).toList) base (.slice (some ⟨g, 0, none⟩) (H ++ [x]).length cap) (M.insH x H) := by
    refine OwnH.laid (hH.later (show Below w.heap.size w (w.drewN n) from ⟨rfl, rfl, rfl, Nat.le_refl _, fun _ _ => rfl⟩)) 0 _ _ (by rw [hins]; simp) hcp ?_ ?_ ?_
    · rw [flat_encH, encH_length, hins]; simp at hcp; omega
    · intro cur hcl hcx
      rw [flat_encH, List.take_zero, List.nil_append, List.take_append_of_le_length (by rw [encH_length]; omega), ← encH_length, List.take_length]
    · intro y hy
      rcases (M.insH_mem x H y).1 hy with rfl | hy
      · exact hH.2 _ (by simp)
      · exact hH.2 _ (by simp [hy])
  refine ⟨e1.later ?_, ?_⟩
  · exact ⟨rfl, rfl, rfl, by simp, fun k hk => by simp only [grow]; rw [Array.getElem?_append_left hk]⟩
  · have e2 : w.grownBy (w.drewN n) (some g) := ⟨rfl, rfl, rfl, Nat.le_refl _, fun _ _ _ => rfl⟩
    have e3 := e2.trans (grownBy_setCells (w.drewN n) g (flatK encA 2 (M.insH x H).toArray).toList 0)
    exact e3.trans ⟨rfl, rfl, rfl, by simp, fun k hk _ => by simp only [grow]; rw [Array.getElem?_append_left hk]⟩
end Go.Proofs.YtcgpgflnihjpiagGreat
namespace Go.Proofs.YtcgpgflnihjpiagGreat
open Go.RowKit Go.Shelf Go.Maps
def M.brE (C : List M.Com) (H : List M.Hd) (s t : ByteArray) : Int :=
  if M.hchk C H t ≠ 0 then M.hchk C H t else if M.nam s = false then 4 else if 0 ≤ M.plc H s then 6 else if 4 ≤ H.length then 2 else 0
def M.brC (C : List M.Com) (H : List M.Hd) (s t : ByteArray) : List M.Com := if M.brE C H s t = 0 then C else []
def M.brH (C : List M.Com) (H : List M.Hd) (s t : ByteArray) : List M.Hd := if M.brE C H s t = 0 then M.insH (s, M.hat C H t) H else []
theorem wbranch2_any (db nb D base : Nat) (C : List M.Com) (H : List M.Hd) (A : List Int) (s : ByteArray) (w : World) (hl : w.cell? ⟨db, 0, none⟩ = some (.pointer (some ⟨D, 0, none⟩))) (hn : w.cell? ⟨nb, 0, none⟩ = some (.string s)) (hD : DeskAt w base D C H A) :
    Calls Tryz.prog 77 #[.pointer (some ⟨db, 0, none⟩), .pointer (some ⟨nb, 0, none⟩)] w fun e w' => e = .returned (.bool (decide (0 ≤ M.plc H s))) ∧ Below w.heap.size w w' := by
  have HK : Hid (Calls Tryz.prog 78 #[.pointer (some ⟨D, 0, none⟩), .string s] w fun e w' => e = .returned (.int .i64 (M.plc H s)) ∧ Below w.heap.size w w') := dplace_any D base C H A s w hD
  go_enter Tryz.func77, Tryz.ntmps77
  go_wp2_with fail
  refine HK.out.mono ?_
  rintro e w1 ⟨rfl, hb1⟩
  go_wp2
  go_ret
  exact ⟨rfl, hb1⟩
theorem wbranch3_any (db D n cap : Nat) (x : Option Addr) (w : World) (hl : w.cell? ⟨db, 0, none⟩ = some (.pointer (some ⟨D, 0, none⟩))) (hx : w.cell? ⟨D, 1, none⟩ = some (.slice x n cap)) :
    Calls Tryz.prog 79 #[.pointer (some ⟨db, 0, none⟩)] w fun e w' => e = .returned (.bool (decide (4 ≤ n))) ∧ Below w.heap.size w w' := by
  go_enter Tryz.func79, Tryz.ntmps79
  go_wp2
  go_ret
  exact ⟨ret_bool (by rw [Bool.eq_iff_iff]; simp; omega), Below.refl _ _⟩
theorem wbranch1_any (ab : Nat) (a : Option Addr) (n cap : Nat) (C : List M.Com) (a2 : Option Addr) (n2 cap2 : Nat) (H : List M.Hd) (w : World) (h0 : w.cell? ⟨ab, 0, none⟩ = some (.slice a n cap)) (h1 : w.cell? ⟨ab, 1, none⟩ = some (.slice a2 n2 cap2)) (hC : Cm w a n C) (hn : n ≤ 9223372036854775807) (hH : Hs w a2 n2 H) (hn2 : n2 ≤ 9223372036854775807) :
    Calls Tryz.prog 76 #[.pointer (some ⟨ab, 0, none⟩)] w fun e w' => e = .returned (.bool (decide (M.rchk C H = 4))) ∧ Below w.heap.size w w' := by
  have HK : Hid (Calls Tryz.prog 10 #[.agg #[.slice a n cap, .slice a2 n2 cap2]] w fun e w' => e = .returned (.int .i64 (M.rchk C H)) ∧ Below w.heap.size w w') := rcheck_any a n cap C a2 n2 cap2 H w hC hn hH hn2
  obtain ⟨c, hc⟩ : ∃ c, M.rchk C H = c := ⟨_, rfl⟩
  rw [hc] at HK
  rw [hc]
  clear hC hH hc
  go_enter Tryz.func76, Tryz.ntmps76
  go_wp2_with fail
  refine HK.out.mono ?_
  rintro e w1 ⟨rfl, hb1⟩
  go_wp2
  go_ret
  exact ⟨ret_bool (by rw [Bool.eq_iff_iff]; simp), hb1⟩
theorem M.rchk_one (C : List M.Com) (s : ByteArray) (x : Nat) (h : M.dchk C = 0) (hx : x < C.length) : decide (M.rchk C [(s, (x : Int))] = 4) = !M.nam s := by
  unfold M.rchk
  rw [if_neg (by rw [h]; simp), if_neg (by simp)]
  cases hn : M.nam s with
  | false => simp [M.named, hn]
  | true =>
    rw [if_neg (by simp [M.named, hn]), if_neg (by simp [M.inside, hx]), if_neg (by simp [M.rise, M.riseF])]
    rfl
theorem M.brE_first {C : List M.Com} {H : List M.Hd} {s t : ByteArray} {f1 f2 f3 : Nat} {c1 c2 c3 : List Value} (hz : M.hchk C H t = 0) {c : Int} (hc : c = firstE [⟨4, f1, c1, !M.nam s⟩, ⟨6, f2, c2, decide (0 ≤ M.plc H s)⟩, ⟨2, f3, c3, decide (4 ≤ H.length)⟩]) : M.brE C H s t = c ∧ (c = 0 → H.length < 4) := by
  unfold M.brE
  rw [if_neg (by rw [hz]; simp), hc]
  cases hn : M.nam s with
  | false => simp [firstE]
  | true =>
    by_cases h1 : 0 ≤ M.plc H s
    · simp [firstE, h1]
    · by_cases h2 : 4 ≤ H.length
      · simp [firstE, h1, h2]
      · simp [firstE, h1, h2]; omega
structure Bz (w V : World) (ha ab : Nat) (s : ByteArray) (x : Int) (cv : Value) : Prop where
  bel : Below w.heap.size w V
  a : V.heap[ha]? = some (.cells #[.string s, .int .i64 x] 58 (0, 0))
  b : V.heap[ab]? = some (.cells #[cv, .slice (some ⟨ha, 0, none⟩) 1 1] 35 (0, 0))
  la : w.heap.size ≤ ha
  lb : w.heap.size ≤ ab
theorem Bz.one (w : World) (s : ByteArray) (x : Int) (cv : Value) : Bz w ((w.alloc (.cells #[.string s, .int .i64 x] 58)).alloc (.cells #[cv, .slice (some ⟨w.heap.size, 0, none⟩) 1 1] 35)).drew w.heap.size (w.heap.size + 1) s x cv := by
  refine ⟨(((Below.refl _ _).alloc (Nat.le_refl _) _).alloc (by simp) _).drew, ?_, ?_, Nat.le_refl _, by omega⟩
  · show ((w.alloc _).alloc _).heap[w.heap.size]? = _
    rw [Below.heap_alloc _ _ _ (by simp)]
    exact heap_alloc_new _ _
  · show ((w.alloc _).alloc _).heap[w.heap.size + 1]? = _
    rw [show w.heap.size + 1 = (w.alloc (.cells #[.string s, .int .i64 x] 58)).heap.size by simp]
    exact heap_alloc_new _ _
theorem Bz.two (w : World) (s : ByteArray) (x : Int) (cv : Value) : Bz w ((w.alloc (.cells #[cv, .slice (some ⟨w.heap.size + 1, 0, none⟩) 1 1] 35)).alloc (.cells #[.string s, .int .i64 x] 58)).drew (w.heap.size + 1) w.heap.size s x cv := by
  refine ⟨(((Below.refl _ _).alloc (Nat.le_refl _) _).alloc (by simp) _).drew, ?_, ?_, by omega, Nat.le_refl _⟩
  · have e := heap_alloc_new (w.alloc (.cells #[cv, .slice (some ⟨w.heap.size + 1, 0, none⟩) 1 1] 35)) (.cells #[.string s, .int .i64 x] 58)
    rw [show (w.alloc (.cells #[cv, .slice (some ⟨w.heap.size + 1, 0, none⟩) 1 1] 35)).heap.size = w.heap.size + 1 by simp] at e
    exact e
  · show ((w.alloc _).alloc _).heap[w.heap.size]? = _
    rw [Below.heap_alloc _ _ _ (by simp)]
    exact heap_alloc_new _ _
set_option maxRecDepth 100000 in
set_option maxHeartbeats 16000000 in
theorem wbranch_any (a : Option Addr) (n cap : Nat) (C : List M.Com) (a2 : Option Addr) (n2 cap2 : Nat) (H : List M.Hd) (s t : ByteArray) (w : World) (hV : RepoV w a n cap C a2 n2 cap2 H) (hss : s.size ≤ 9223372036854775807) :
    Calls Tryz.prog 40 #[.agg #[.slice a n cap, .slice a2 n2 cap2], .string s, .string t] w fun e w' => ∃ v, e = .returned (.tuple #[v, .int .i64 (M.brE C H s t)]) ∧ RepoOwn w' w.heap.size v (M.brC C H s t) (M.brH C H s t) ∧ Below w.heap.size w w' := by
  obtain ⟨p, hp⟩ : ∃ p, p = w.heap.size := ⟨_, rfl⟩
  obtain ⟨W, hW⟩ : ∃ W, W = (((w.alloc (.cells #[.slice a n cap, .slice a2 n2 cap2] 35)).alloc (.cells #[.string s] 9)).alloc (.cells #[.slice none 0 0, .slice none 0 0] 35)).alloc (.cells #[.string t] 9) := ⟨_, rfl⟩
  have hb : Below w.heap.size w W := by rw [hW]; exact ((((Below.refl _ _).alloc (Nat.le_refl _) _).alloc (by simp) _).alloc (by simp; omega) _).alloc (by simp; omega) _
  obtain ⟨R, hR⟩ : ∃ R, R = p + 1 + 1 := ⟨_, rfl⟩
  have hsz : W.heap.size = R + 2 := by rw [hW, hR, hp]; simp
  have q1 : W.cell? ⟨p + 1, 0, none⟩ = some (.string s) := by rw [hW, hp]; simp [go_sem]
  have q2 : W.heap[R]? = some (.cells #[.slice none 0 0, .slice none 0 0] 35 (0, 0)) := by
    rw [hW, Below.heap_alloc _ _ _ (by simp; omega), show R = ((w.alloc (.cells #[.slice a n cap, .slice a2 n2 cap2] 35)).alloc (.cells #[.string s] 9)).heap.size by rw [hR, hp]; simp]
    exact heap_alloc_new _ _
  have hNs : Ns W (R + 1) 1 [t] := ⟨rfl, by omega, fun i hi => by
    obtain rfl : i = 0 := by omega
    rw [hW, hR, hp]; simp [go_sem]⟩
  have KO := open_any a n cap C a2 n2 cap2 H (R + 1) 1 [t] W (hV.later hb) hNs (by omega) (by omega)
  have HO : Hid (Calls Tryz.prog 67 #[.agg #[.slice a n cap, .slice a2 n2 cap2], .slice (some ⟨R + 1, 0, none⟩) 1 1] W fun e w' => Below W.heap.size W w' ∧
      ((M.openE C H [t] ≠ 0 ∧ e = .returned (.tuple #[.pointer none, .int .i64 (M.openE C H [t])])) ∨ (M.openE C H [t] = 0 ∧ M.rchk C H = 0 ∧ ∃ D, e = .returned (.tuple #[.pointer (some ⟨D, 0, none⟩), .int .i64 0]) ∧ DeskAt w' W.heap.size D C H ([t].map (M.hat C H))))) := KO
  have eO : M.openE C H [t] = M.hchk C H t := by
    by_cases h : M.hchk C H t = 0
    · simp [M.openE, h]
    · simp [M.openE, h]
  rw [eO] at HO
  have HW : Hid (W = (((w.alloc (.cells #[.slice a n cap, .slice a2 n2 cap2] 35)).alloc (.cells #[.string s] 9)).alloc (.cells #[.slice none 0 0, .slice none 0 0] 35)).alloc (.cells #[.string t] 9)) := hW
  have HP : Aside (p = w.heap.size) := hp
  have HR : Aside (R = p + 1 + 1) := hR
  have hpR : p + 1 < R := by omega
  have HPR : Aside (w.heap.size ≤ p) := by unfold Aside; omega
  clear KO eO hW hp hV hNs hR
  go_enter Tryz.func40, Tryz.ntmps40
  go_wp2_with fail
  rw [← HW.out, ← HP.out, ← HR.out]
  refine HO.out.mono ?_
  rintro e w1 ⟨b1, hor⟩
  have hs1 := b1.size
  have hRl : R < w1.heap.size := by omega
  have r2 : w1.heap[R]? = some (.cells #[.slice none 0 0, .slice none 0 0] 35 (0, 0)) := (b1.block (R) (by omega)).trans q2
  have hbw : Below w.heap.size w w1 := hb.trans (b1.mono hb.size)
  rcases hor with ⟨hne0, rfl⟩ | ⟨hz, hr0, D, rfl, hD⟩
  · have E : Aside (M.brE C H s t = M.hchk C H t) := by unfold Aside M.brE; rw [if_pos hne0]
    have EC : Aside (M.brC C H s t = [] ∧ M.brH C H s t = []) := ⟨by unfold M.brC; rw [E.out, if_neg hne0], by unfold M.brH; rw [E.out, if_neg hne0]⟩
    obtain ⟨c, hc⟩ : ∃ c, c = M.hchk C H t := ⟨_, rfl⟩
    rw [← hc] at E hne0 ⊢
    have hne : (c != 0) = true := by simp [hne0]
    obtain ⟨g1, g2, g3⟩ := res_set r2 (.slice none 0 0) (.slice none 0 0)
    obtain ⟨Y, hY⟩ : ∃ Y, Y = (w1.setCell ⟨R, 0, none⟩ (.slice none 0 0)).setCell ⟨R, 1, none⟩ (.slice none 0 0) := ⟨_, rfl⟩
    rw [← hY] at g1 g3
    have bY : Below w.heap.size w Y := by rw [hY]; exact (hbw.setCell (p := ⟨R, 0, none⟩) (by show _ ≤ R; have := HPR.out; omega) _).setCell (p := ⟨R, 1, none⟩) (by show _ ≤ R; have := HPR.out; omega) _
    obtain ⟨X, hX⟩ : ∃ X, X = Y.alloc (.cells #[.pointer none] 106) := ⟨_, rfl⟩
    have bX : Below w.heap.size w X := by rw [hX]; exact bY.alloc bY.size _
    have gX : X.heap[R]? = some (.cells #[.slice none 0 0, .slice none 0 0] 35 (0, 0)) := by rw [hX, Below.heap_alloc _ _ _ (by omega)]; exact g1
    have HX9 : Hid (X = ((w1.setCell ⟨R, 0, none⟩ (.slice none 0 0)).setCell ⟨R, 1, none⟩ (.slice none 0 0)).alloc (.cells #[.pointer none] 106)) := by rw [← hY]; exact hX
    have HX0 : Aside (X.cell? ⟨R, 0, none⟩ = some (.slice none 0 0)) := by unfold Aside; rw [cell_of_row _ _ _ _ _ _ gX]; rfl
    have HX1 : Aside (X.cell? ⟨R, 1, none⟩ = some (.slice none 0 0)) := by unfold Aside; rw [cell_of_row _ _ _ _ _ _ gX]; rfl
    have x0 : w1.cell? ⟨R, 0, none⟩ = some (.slice none 0 0) := by rw [cell_of_row _ _ _ _ _ _ r2]; rfl
    have x1 : w1.cell? ⟨R, 1, none⟩ = some (.slice none 0 0) := by rw [cell_of_row _ _ _ _ _ _ r2]; rfl
    have f0 : w1.frozen? ⟨R, 0, none⟩ = false := frozen_of_row _ _ _ _ _ r2
    have f1 : w1.frozen? ⟨R, 1, none⟩ = false := frozen_of_row _ _ _ _ _ r2
    clear g1 g2 g3 hX gX hY bY r2 hne0 hc
    go_wp2
    rw [← HX9.out]
    have y0 := HX0.out
    have y1 := HX1.out
    refine bodyPost_ret (v := .tuple #[.agg #[.slice none 0 0, .slice none 0 0], .int .i64 c]) (by simp [results, Tryz.results40, go_sem, y0, y1]) rfl ?_
    refine ⟨_, ret_two' E.out.symm, ?_, bX⟩
    rw [EC.out.1, EC.out.2]; exact RepoOwn.none _ _
  · have hlen := M.rchk_zero hr0
    have hat := M.hat_in hz
    obtain ⟨x, hx⟩ : ∃ x : Nat, M.hat C H t = (x : Int) := ⟨(M.hat C H t).toNat, by omega⟩
    rw [hx] at hat
    have hxl : x < C.length := by omega
    have hDm : DeskAt w1 W.heap.size D C H [(x : Int)] := by have h := hD; simp only [List.map_cons, List.map_nil, hx] at h; exact h
    have hDl := hDm.lt
    have hDb : R + 2 ≤ D := by obtain ⟨_, _, _, _, h2, _⟩ := hDm; omega
    obtain ⟨db, hdb⟩ : ∃ db, db = w1.heap.size := ⟨_, rfl⟩
    obtain ⟨w2, hw2⟩ : ∃ w2, w2 = w1.alloc (.cells #[.pointer (some ⟨D, 0, none⟩)] 106) := ⟨_, rfl⟩
    have b2 : Below w1.heap.size w1 w2 := by rw [hw2]; exact (Below.refl _ _).alloc (Nat.le_refl _) _
    have hs2 : w2.heap.size = db + 1 := by rw [hw2, hdb]; simp
    have D2 : DeskAt w2 W.heap.size D C H [(x : Int)] := hDm.later b2
    have HD2 : Aside (DeskAt w2 W.heap.size D C H [(x : Int)]) := D2
    have blkd : w2.heap[db]? = some (.cells #[.pointer (some ⟨D, 0, none⟩)] 106 (0, 0)) := by rw [hw2, hdb]; exact heap_alloc_new _ _
    obtain ⟨vx, vy, vz, e1, _, e3, e4, e5⟩ := D2
    obtain ⟨zg, zc, rfl⟩ : ∃ zg zc, vz = .slice (some ⟨zg, 0, none⟩) 1 zc := by
      rcases e5.2 with ⟨_, e⟩ | ⟨g, cap, _, e, _⟩
      · simp at e
      · exact ⟨g, cap, e⟩
    obtain ⟨xa, xc, rfl, hcm, _, hxc1, hxc2, _⟩ := e3.cm
    have k0 : w2.cell? ⟨db, 0, none⟩ = some (.pointer (some ⟨D, 0, none⟩)) := by rw [cell_of_row _ _ _ _ _ _ blkd]; rfl
    have k1 : w2.cell? ⟨D, 0, none⟩ = some (.slice xa C.length xc) := by rw [cell_of_row _ _ _ _ _ _ e1]; rfl
    have k2 : w2.cell? ⟨D, 2, none⟩ = some (.slice (some ⟨zg, 0, none⟩) 1 zc) := by rw [cell_of_row _ _ _ _ _ _ e1]; rfl
    have k3 : w2.cell? ⟨zg, 0, none⟩ = some (.int .i64 (x : Int)) := by rw [World.ownsRow.cellAt e5 0 (by simp)]; rfl
    have k4 : w2.cell? ⟨p + 1, 0, none⟩ = some (.string s) := (b2.cell (p := ⟨p + 1, 0, none⟩) (by show p + 1 < _; omega)).trans ((b1.cell (p := ⟨p + 1, 0, none⟩) (by show p + 1 < _; omega)).trans q1)
    have hpl : p + 1 < w2.heap.size := by omega
    have hRl2 : R + 1 < w2.heap.size := by omega
    have hWl2 : W.heap.size ≤ w2.heap.size := by omega
    have HW2 : Hid (w2 = w1.alloc (.cells #[.pointer (some ⟨D, 0, none⟩)] 106)) := hw2
    have HDB : Aside (db = w1.heap.size) := hdb
    have HX : Aside (M.hat C H t = (x : Int)) := hx
    have HBD : Aside (w2.heap[db]? = some (.cells #[.pointer (some ⟨D, 0, none⟩)] 106 (0, 0))) := blkd
    have hb2w : Below w.heap.size w w2 := hbw.trans (b2.mono hbw.size)
    have r3 : w2.heap[R]? = some (.cells #[.slice none 0 0, .slice none 0 0] 35 (0, 0)) := (b2.block R (by omega)).trans r2
    have HZ : Aside (M.hchk C H t = 0) := hz
    have HRC : Aside (M.rchk C H = 0) := hr0
    have HE2 : Aside (w2.heap[D]? = some (.cells #[.slice xa C.length xc, vy, .slice (some ⟨zg, 0, none⟩) 1 zc] 115 (0, 0))) := e1
    have HY2 : Aside (∀ g cp, vy = .slice (some ⟨g, 0, none⟩) H.length cp → g < w2.heap.size) := by
      intro g cp e
      rcases e4.1.2 with ⟨e', _⟩ | ⟨g', cap', cur, e', _, hh, _⟩
      · rw [e'] at e; simp at e
      · rw [e'] at e
        simp only [Value.slice.injEq, Option.some.injEq, Addr.mk.injEq] at e
        obtain ⟨⟨rfl, _⟩, _⟩ := e
        exact (Array.getElem?_eq_some_iff.1 hh).1
    clear hw2 hdb hx blkd e1 e3 e4 e5 hD hDm b2 r2 hz hr0 hlen hat
    go_wp2_with fail
    rw [← HDB.out, ← HW2.out]
    have hdl : db < w2.heap.size := by omega
    have hzl : zg < w2.heap.size := World.block_lt_of_cell? w2 ⟨zg, 0, none⟩ k3
    have hDl2 : D < w2.heap.size := HD2.out.lt
    go_region_held3 (fun V => V.cell? ⟨p + 1, 0, none⟩ = some (.string s) ∧ V.cell? ⟨db, 0, none⟩ = some (.pointer (some ⟨D, 0, none⟩)) ∧ V.cell? ⟨D, 2, none⟩ = some (.slice (some ⟨zg, 0, none⟩) 1 zc) ∧ V.cell? ⟨zg, 0, none⟩ = some (.int .i64 (x : Int))) (first | exact ⟨k4, k0, k2, k3⟩ | go_keep) (fail)
    obtain ⟨w3, hw3⟩ : ∃ w3, w3 = (w2.alloc (.cells #[.string s, .int .i64 (x : Int)] 58)).drew := ⟨_, rfl⟩
    obtain ⟨hb', hhb⟩ : ∃ hb', hb' = db + 1 := ⟨_, rfl⟩
    have b3 : Below w2.heap.size w2 w3 := by rw [hw3]; exact ((Below.refl _ _).alloc (Nat.le_refl _) _).drew
    have blkh : w3.heap[hb']? = some (.cells #[.string s, .int .i64 (x : Int)] 58 (0, 0)) := by rw [hw3, hhb, ← hs2]; exact heap_alloc_new _ _
    have hs3 : w3.heap.size = hb' + 1 := by rw [hw3, hhb]; show (w2.alloc _).heap.size = _; simp [hs2]
    rw [← hw3, ← hhb]
    have m0 : w3.cell? ⟨db, 0, none⟩ = some (.pointer (some ⟨D, 0, none⟩)) := (b3.cell (p := ⟨db, 0, none⟩) hdl).trans k0
    have m1 : w3.cell? ⟨D, 0, none⟩ = some (.slice xa C.length xc) := (b3.cell (p := ⟨D, 0, none⟩) hDl2).trans k1
    have m2 : w3.cell? ⟨hb', 0, none⟩ = some (.string s) := by rw [cell_of_row _ _ _ _ _ _ blkh]; rfl
    have m3 : w3.cell? ⟨hb', 1, none⟩ = some (.int .i64 (x : Int)) := by rw [cell_of_row _ _ _ _ _ _ blkh]; rfl
    have hdl3 : db < w3.heap.size := by omega
    have hDl3 : D < w3.heap.size := by omega
    have hhl3 : hb' < w3.heap.size := by omega
    have hcm3 : Cm w3 xa C.length C := hcm.below b3 (Nat.le_refl _)
    have HD3 : Aside (DeskAt w3 W.heap.size D C H [(x : Int)]) := HD2.out.later b3
    have HBD3 : Aside (w3.heap[db]? = some (.cells #[.pointer (some ⟨D, 0, none⟩)] 106 (0, 0))) := (b3.block db hdl).trans HBD.out
    have HN3 : Aside (w3.cell? ⟨p + 1, 0, none⟩ = some (.string s)) := (b3.cell (p := ⟨p + 1, 0, none⟩) hpl).trans k4
    have hb3w : Below w.heap.size w w3 := hb2w.trans (b3.mono hb2w.size)
    have HR3 : Aside (w3.heap[R]? = some (.cells #[.slice none 0 0, .slice none 0 0] 35 (0, 0))) := (b3.block R (by omega)).trans r3
    have HH3 : Aside (w3.heap[hb']? = some (.cells #[.string s, .int .i64 (x : Int)] 58 (0, 0))) := blkh
    have hl3 : R + 1 < w3.heap.size ∧ p + 1 < w3.heap.size ∧ W.heap.size ≤ w3.heap.size := by omega
    have HE3 : Aside (w3.heap[D]? = some (.cells #[.slice xa C.length xc, vy, .slice (some ⟨zg, 0, none⟩) 1 zc] 115 (0, 0))) := (b3.block D hDl2).trans HE2.out
    have HY3 : Aside (∀ g cp, vy = .slice (some ⟨g, 0, none⟩) H.length cp → g < hb') := fun g cp e => by have := HY2.out g cp e; omega
    clear hw3 k0 k1 k2 k3 k4 blkh r3 hhb b3 hs2 hcm
    go_wp2_with fail
    go_region_held3 (fun V => V.cell? ⟨db, 0, none⟩ = some (.pointer (some ⟨D, 0, none⟩)) ∧ V.cell? ⟨D, 0, none⟩ = some (.slice xa C.length xc) ∧ V.cell? ⟨hb', 0, none⟩ = some (.string s) ∧ V.cell? ⟨hb', 1, none⟩ = some (.int .i64 (x : Int))) (first | exact ⟨m0, m1, m2, m3⟩ | go_keep) (fail)
    generalize hVe : ((w3.alloc (.cells #[.string s, .int .i64 (x : Int)] 58)).alloc (.cells #[.slice xa C.length xc, .slice (some ⟨hb' + 1, 0, none⟩) 1 1] 35)).drew = V
    generalize hab : hb' + 1 + 1 = ab
    generalize hha : hb' + 1 = ha
    have FV : Bz w3 V ha ab s (x : Int) (.slice xa C.length xc) := by rw [← hVe, ← hab, ← hha, ← hs3]; exact Bz.one _ _ _ _
    clear hVe hab hha
    rotate_left
    generalize hVe : ((w3.alloc (.cells #[.slice xa C.length xc, .slice (some ⟨hb' + 1 + 1, 0, none⟩) 1 1] 35)).alloc (.cells #[.string s, .int .i64 (x : Int)] 58)).drew = V
    generalize hha : hb' + 1 + 1 = ha
    generalize hab : hb' + 1 = ab
    have FV : Bz w3 V ha ab s (x : Int) (.slice xa C.length xc) := by rw [← hVe, ← hab, ← hha, ← hs3]; exact Bz.two _ _ _ _
    clear hVe hab hha
    all_goals
      have hsV := FV.bel.size
      have hbV : Below w.heap.size w V := hb3w.trans (FV.bel.mono hb3w.size)
      have dV : V.heap[db]? = some (.cells #[.pointer (some ⟨D, 0, none⟩)] 106 (0, 0)) := (FV.bel.block db hdl3).trans HBD3.out
      have nV : V.cell? ⟨p + 1, 0, none⟩ = some (.string s) := (FV.bel.cell (p := ⟨p + 1, 0, none⟩) hl3.2.1).trans HN3.out
      have DV : DeskAt V W.heap.size D C H [(x : Int)] := HD3.out.later FV.bel
      have hV3 : V.heap[hb']? = some (.cells #[.string s, .int .i64 (x : Int)] 58 (0, 0)) := (FV.bel.block hb' hhl3).trans HH3.out
      have rV : V.heap[R]? = some (.cells #[.slice none 0 0, .slice none 0 0] 35 (0, 0)) := (FV.bel.block R (by omega)).trans HR3.out
      have haV : ha < V.heap.size := (Array.getElem?_eq_some_iff.1 FV.a).1
      have habV : ab < V.heap.size := (Array.getElem?_eq_some_iff.1 FV.b).1
      have cmV : Cm V xa C.length C := hcm3.below FV.bel (Nat.le_refl _)
      obtain ⟨bb, hbb⟩ : ∃ bb, bb = V.heap.size := ⟨_, rfl⟩
      obtain ⟨w5, hw5⟩ : ∃ w5, w5 = V.alloc (.cells #[.int .i64 4, .func (.func 76) #[] #[.pointer (some ⟨ab, 0, none⟩)], .int .i64 6, .func (.func 77) #[] #[.pointer (some ⟨db, 0, none⟩), .pointer (some ⟨p + 1, 0, none⟩)], .int .i64 2, .func (.func 79) #[] #[.pointer (some ⟨db, 0, none⟩)]] 113) := ⟨_, rfl⟩
      have b5 : Below V.heap.size V w5 := by rw [hw5]; exact (Below.refl _ _).alloc (Nat.le_refl _) _
      have hs5 : w5.heap.size = bb + 1 := by rw [hw5, hbb]; simp
      have hdz : M.dchk C = 0 := (M.rchk_zero HRC.out).1
      have KF := firstOf_any bb 3 [⟨4, 76, [.pointer (some ⟨ab, 0, none⟩)], !M.nam s⟩, ⟨6, 77, [.pointer (some ⟨db, 0, none⟩), .pointer (some ⟨p + 1, 0, none⟩)], decide (0 ≤ M.plc H s)⟩, ⟨2, 79, [.pointer (some ⟨db, 0, none⟩)], decide (4 ≤ H.length)⟩] w5 rfl (by omega) (by omega)
        (fun i hi => by
          rw [hw5, hbb]
          match i, hi with
          | 0, _ => constructor <;> simp [go_sem]
          | 1, _ => constructor <;> simp [go_sem]
          | 2, _ => constructor <;> simp [go_sem])
        (fun b hb => by
          simp only [List.mem_cons, List.not_mem_nil, or_false] at hb
          rcases hb with rfl | rfl | rfl
          · refine ⟨enters_of Tryz.func76 (by kernel_rfl) rfl, fun V' hV' => ?_⟩
            have hh := dbelow2 b5 hV'
            have K := wbranch1_any ab xa C.length xc C (some ⟨ha, 0, none⟩) 1 1 [(s, (x : Int))] V' (by rw [cell_of_row _ _ _ _ _ _ ((hh.block ab habV).trans FV.b)]; rfl) (by rw [cell_of_row _ _ _ _ _ _ ((hh.block ab habV).trans FV.b)]; rfl) (cmV.below hh (Nat.le_refl _)) (by unfold maxLen at hxc2; omega) (⟨rfl, Or.inr ⟨ha, 0, rfl, Nat.lt_of_lt_of_le haV hh.size, fun i hi => (by obtain rfl : i = 0 := (by omega); exact ⟨(by rw [cell_of_row _ _ _ _ _ _ ((hh.block ha haV).trans FV.a)]; rfl), (by rw [cell_of_row _ _ _ _ _ _ ((hh.block ha haV).trans FV.a)]; rfl), hss⟩)⟩⟩) (by omega)
            rw [M.rchk_one C s x hdz hxl] at K
            exact K
          · refine ⟨enters_of Tryz.func77 (by kernel_rfl) rfl, fun V' hV' => ?_⟩
            have hh := dbelow2 b5 hV'
            exact wbranch2_any db (p + 1) D W.heap.size C H [(x : Int)] s V' (by rw [cell_of_row _ _ _ _ _ _ ((hh.block db (by omega)).trans dV)]; rfl) ((hh.cell (p := ⟨p + 1, 0, none⟩) (by show p + 1 < _; omega)).trans nV) (DV.later hh)
          · refine ⟨enters_of Tryz.func79 (by kernel_rfl) rfl, fun V' hV' => ?_⟩
            have hh := dbelow2 b5 hV'
            obtain ⟨x', y', z', e1, _, _, e4, _⟩ := DV.later hh
            obtain ⟨ya, yc, rfl, _⟩ := e4.hs
            exact wbranch3_any db D H.length yc ya V' (by rw [cell_of_row _ _ _ _ _ _ ((hh.block db (by omega)).trans dV)]; rfl) (by rw [cell_of_row _ _ _ _ _ _ e1]; rfl))
      obtain ⟨c, hc⟩ : ∃ c, c = firstE [⟨4, 76, [.pointer (some ⟨ab, 0, none⟩)], !M.nam s⟩, ⟨6, 77, [.pointer (some ⟨db, 0, none⟩), .pointer (some ⟨p + 1, 0, none⟩)], decide (0 ≤ M.plc H s)⟩, ⟨2, 79, [.pointer (some ⟨db, 0, none⟩)], decide (4 ≤ H.length)⟩] := ⟨_, rfl⟩
      rw [← hc] at KF
      obtain ⟨hE, hH4⟩ := M.brE_first HZ.out hc
      have HE : Aside (M.brE C H s t = c) := hE
      have HKF : Hid (Calls Tryz.prog 68 #[.slice (some ⟨bb, 0, none⟩) 3 3] w5 fun e w' => e = .returned (.int .i64 c) ∧ Below w5.heap.size w5 w') := KF
      have HW5 : Hid (w5 = V.alloc (.cells #[.int .i64 4, .func (.func 76) #[] #[.pointer (some ⟨ab, 0, none⟩)], .int .i64 6, .func (.func 77) #[] #[.pointer (some ⟨db, 0, none⟩), .pointer (some ⟨p + 1, 0, none⟩)], .int .i64 2, .func (.func 79) #[] #[.pointer (some ⟨db, 0, none⟩)]] 113)) := hw5
      have HBB : Aside (bb = V.heap.size) := hbb
      have HD5 : Aside (DeskAt w5 W.heap.size D C H [(x : Int)]) := DV.later b5
      have Hd5 : Aside (w5.heap[db]? = some (.cells #[.pointer (some ⟨D, 0, none⟩)] 106 (0, 0))) := (b5.block db (by omega)).trans dV
      have Hh5 : Aside (w5.heap[hb']? = some (.cells #[.string s, .int .i64 (x : Int)] 58 (0, 0))) := (b5.block hb' (by omega)).trans hV3
      have hb5w : Below w.heap.size w w5 := hbV.trans (b5.mono hbV.size)
      have HR5 : Aside (w5.heap[R]? = some (.cells #[.slice none 0 0, .slice none 0 0] 35 (0, 0))) := (b5.block R (by omega)).trans rV
      have hl5 : R + 1 < w5.heap.size ∧ db < w5.heap.size ∧ hb' < w5.heap.size ∧ D < w5.heap.size ∧ W.heap.size ≤ w5.heap.size := by omega
      have HH4 : Aside (c = 0 → H.length < 4) := hH4
      have HE5 : Aside (w5.heap[D]? = some (.cells #[.slice xa C.length xc, vy, .slice (some ⟨zg, 0, none⟩) 1 zc] 115 (0, 0))) := (b5.block D (by omega)).trans ((FV.bel.block D hDl3).trans HE3.out)
      clear KF hw5 DV dV nV rV hV3 cmV hc hE hH4 b5 hbb FV m0 m1 m2 m3 hcm3
      go_wp2_with fail
      rw [← HBB.out, ← HW5.out]
      refine HKF.out.mono ?_
      rintro e w6 ⟨rfl, b6⟩
      have hs6 := b6.size
      have b6w : Below w.heap.size w w6 := hb5w.trans (b6.mono hb5w.size)
      have r6 : w6.heap[R]? = some (.cells #[.slice none 0 0, .slice none 0 0] 35 (0, 0)) := (b6.block R (by omega)).trans HR5.out
      by_cases hc0 : c = 0
      · have hne : (c != 0) = false := by simp [hc0]
        have hH3 := HH4.out hc0
        have E0 : Aside (M.brE C H s t = 0) := by unfold Aside; rw [HE.out]; exact hc0
        have EC : Aside (M.brC C H s t = C ∧ M.brH C H s t = M.insH (s, (x : Int)) H) := ⟨by unfold M.brC; rw [if_pos E0.out], by unfold M.brH; rw [if_pos E0.out, HX.out]⟩
        have D6 : DeskAt w6 W.heap.size D C H [(x : Int)] := HD5.out.later b6
        have d6 : w6.heap[db]? = some (.cells #[.pointer (some ⟨D, 0, none⟩)] 106 (0, 0)) := (b6.block db (by omega)).trans Hd5.out
        have h6 : w6.heap[hb']? = some (.cells #[.string s, .int .i64 (x : Int)] 58 (0, 0)) := (b6.block hb' (by omega)).trans Hh5.out
        have HWw : Hid (w.heap.size ≤ W.heap.size) := hb.size
        have hH1 : 1 ≤ H.length := by have h0 := (M.hchk_zero HZ.out).2; rcases M.plc_lt H t with h | h <;> omega
        obtain ⟨x6, y6, z6, e6, hbD6, ok6, oh6, oi6⟩ := D6
        obtain ⟨g, cp, rfl⟩ : ∃ g cp, y6 = .slice (some ⟨g, 0, none⟩) H.length cp := by
          rcases oh6.1.2 with ⟨_, e⟩ | ⟨g, cap, _, e, _⟩
          · omega
          · exact ⟨g, cap, e⟩
        obtain ⟨cur, hgb, hgbase⟩ : ∃ cur, w6.heap[g]? = some (.cells cur 58 (0, 0)) ∧ W.heap.size ≤ g := by
          rcases oh6.1.2 with ⟨e, _⟩ | ⟨g', cap', cur, e, hb', hh, hc', _⟩
          · simp at e
          · simp only [Value.slice.injEq, Option.some.injEq, Addr.mk.injEq] at e
            obtain ⟨⟨rfl, _⟩, _, rfl⟩ := e
            exact ⟨cur, hh, hb'⟩
        have hgd : db ≠ g := fun e => by rw [← e, d6] at hgb; simp at hgb
        have hgh : hb' ≠ g := by
          have e := (b6.block D (by omega)).trans HE5.out
          rw [e6] at e
          simp only [Option.some.injEq, Obj.cells.injEq] at e
          have e' := congrArg (fun a : Array Value => a[1]?) e.1
          have := HY3.out g cp (by simpa using e'.symm)
          omega
        obtain ⟨W7, hW7⟩ : ∃ W7, W7 = w6.drew.alloc (.cells #[.string s, .int .i64 (x : Int)] 58) := ⟨_, rfl⟩
        have b67 : Below w6.heap.size w6 W7 := by rw [hW7]; exact ((Below.refl _ _).drew).alloc (Nat.le_refl _) _
        have HRA : Hid ((w6.drew.alloc (.cells #[.string s, .int .i64 (x : Int)] 58)).ownsRow W.heap.size 58 2 (.slice (some ⟨g, 0, none⟩) H.length cp) H.length (encH H)) := by rw [← hW7]; exact ownsRow_later oh6.1 b67
        have HRh : Aside (∀ g8 cap8 w8, w8.ownsRow W.heap.size 58 2 (.slice (some ⟨g8, 0, none⟩) (H.length + 1) cap8) (H.length + 1) (encH H ++ [.string s, .int .i64 (x : Int)]) → (w6.drew.alloc (.cells #[.string s, .int .i64 (x : Int)] 58)).grownBy w8 (some g) →
            DeskAt (w8.setCell ⟨D, 1, none⟩ (.slice (some ⟨g8, 0, none⟩) (H.length + 1) cap8)) W.heap.size D C (H ++ [(s, (x : Int))]) [(x : Int)] ∧ w8.heap[D]? = some (.cells #[x6, .slice (some ⟨g, 0, none⟩) H.length cp, z6] 115 (0, 0)) ∧ w8.heap[db]? = some (.cells #[.pointer (some ⟨D, 0, none⟩)] 106 (0, 0)) ∧ Below W.heap.size w6 w8 ∧ w8.heap[R]? = some (.cells #[.slice none 0 0, .slice none 0 0] 35 (0, 0)) ∧ w8.heap[hb']? = some (.cells #[.string s, .int .i64 (x : Int)] 58 (0, 0))) := by
          intro g8 cap8 w8 ho hg8
          rw [← hW7] at hg8
          have hgb7 : W7.heap[g]? = some (.cells cur 58 (0, 0)) := (b67.block g (Array.getElem?_eq_some_iff.1 hgb).1).trans hgb
          have s67 := b67.size
          obtain ⟨q1, q2⟩ := DeskAt.reheaded (y' := .slice (some ⟨g8, 0, none⟩) (H.length + 1) cap8) (H' := H ++ [(s, (x : Int))]) ((b67.block D (by omega)).trans e6) hbD6 (ok6.later b67) (ownsRow_later oi6 b67) hgb7 hg8 ⟨by rw [encH_append, List.length_append]; exact ho, fun y hy => by
            rcases List.mem_append.1 hy with hy | hy
            · exact oh6.2 y hy
            · simp at hy; subst hy; exact hss⟩
          refine ⟨q1, q2, (hg8.block db (by omega) (by simp [hgd])).trans ((b67.block db (by omega)).trans d6), (b67.mono (by omega)).trans (below_of_grown hg8 hgbase (by omega)), (hg8.block R (by omega) (by simp; omega)).trans ((b67.block R (by omega)).trans r6), (hg8.block hb' (by omega) (by simp [hgh])).trans ((b67.block hb' (by omega)).trans h6)⟩
        have n0 : w6.cell? ⟨db, 0, none⟩ = some (.pointer (some ⟨D, 0, none⟩)) := by rw [cell_of_row _ _ _ _ _ _ d6]; rfl
        have n1 : w6.cell? ⟨D, 1, none⟩ = some (.slice (some ⟨g, 0, none⟩) H.length cp) := by rw [cell_of_row _ _ _ _ _ _ e6]; rfl
        have n2 : w6.cell? ⟨hb', 0, none⟩ = some (.string s) := by rw [cell_of_row _ _ _ _ _ _ h6]; rfl
        have n3 : w6.cell? ⟨hb', 1, none⟩ = some (.int .i64 (x : Int)) := by rw [cell_of_row _ _ _ _ _ _ h6]; rfl
        have HS7 : Hid ((w6.drew.alloc (.cells #[.string s, .int .i64 (x : Int)] 58)).cell? ⟨db, 0, none⟩ = some (.pointer (some ⟨D, 0, none⟩)) ∧ (w6.drew.alloc (.cells #[.string s, .int .i64 (x : Int)] 58)).cell? ⟨D, 1, none⟩ = some (.slice (some ⟨g, 0, none⟩) H.length cp) ∧ (w6.drew.alloc (.cells #[.string s, .int .i64 (x : Int)] 58)).cell? ⟨hb', 0, none⟩ = some (.string s) ∧ (w6.drew.alloc (.cells #[.string s, .int .i64 (x : Int)] 58)).cell? ⟨hb', 1, none⟩ = some (.int .i64 (x : Int))) := by
          rw [← hW7]
          exact ⟨(b67.cell (p := ⟨db, 0, none⟩) (by show db < _; omega)).trans n0, (b67.cell (p := ⟨D, 1, none⟩) (by show D < _; omega)).trans n1, (b67.cell (p := ⟨hb', 0, none⟩) (by show hb' < _; omega)).trans n2, (b67.cell (p := ⟨hb', 1, none⟩) (by show hb' < _; omega)).trans n3⟩
        obtain ⟨i1, hi1, hy0, hy1, hy2⟩ := info_parts infoHead
        have HRise : Aside (M.rise H = true) := (M.rchk_zero HRC.out).2.2.2.2
        clear hc0 HKF e6 ok6 oh6 oi6 hgb d6 h6 r6 hW7
        go_wp2_with fail
        refine wp_region_till 12 (fun V => V.cell? ⟨db, 0, none⟩ = some (.pointer (some ⟨D, 0, none⟩)) ∧ V.cell? ⟨D, 1, none⟩ = some (.slice (some ⟨g, 0, none⟩) H.length cp) ∧ V.cell? ⟨hb', 0, none⟩ = some (.string s) ∧ V.cell? ⟨hb', 1, none⟩ = some (.int .i64 (x : Int))) (by kernel_rfl) ⟨n0, n1, n2, n3⟩ (fun hHeld => ?_)
        refine till_take 0 (v := .pointer (some ⟨D, 0, none⟩)) rfl (by decide) (by kernel_rfl) (by kernel_rfl) (by kernel_rfl) (by kernel_rfl) (by kernel_rfl) (fun _ _ _ h => h) (Or.inl ⟨by rfl, fun V hV => (by obtain ⟨v0, v1, v2, v3⟩ := hV; go_simp)⟩) hHeld ?_
        try simp only [Act.put]
        refine till_take 1 (v := .pointer (some ⟨D, 0, none⟩)) rfl (by decide) (by kernel_rfl) (by kernel_rfl) (by kernel_rfl) (by kernel_rfl) (by kernel_rfl) (fun _ _ _ h => h) (Or.inl ⟨by rfl, fun V hV => (by obtain ⟨v0, v1, v2, v3⟩ := hV; go_simp)⟩) hHeld ?_
        try simp only [Act.put]
        refine till_go 2 (v := .pointer (some ⟨D, 0, none⟩)) rfl (by decide) (by kernel_rfl) (by kernel_rfl) (by kernel_rfl) (fun _ _ _ h => h) (Or.inl ⟨by rfl, fun V _ => (by go_simp)⟩) hHeld ?_
        try simp only [Act.put]
        refine till_go 3 (v := .pointer (some ⟨D, 0, none⟩)) rfl (by decide) (by kernel_rfl) (by kernel_rfl) (by kernel_rfl) (fun _ _ _ h => h) (Or.inl ⟨by rfl, fun V _ => (by go_simp)⟩) hHeld ?_
        try simp only [Act.put]
        refine till_go 4 (v := .pointer (some ⟨D, 1, none⟩)) rfl (by decide) (by kernel_rfl) (by kernel_rfl) (by kernel_rfl) (fun _ _ _ h => h) (Or.inl ⟨by rfl, fun V _ => (by go_simp)⟩) hHeld ?_
        try simp only [Act.put]
        refine till_take 5 (v := .slice (some ⟨g, 0, none⟩) H.length cp) rfl (by decide) (by kernel_rfl) (by kernel_rfl) (by kernel_rfl) (by kernel_rfl) (by kernel_rfl) (fun _ _ _ h => h) (Or.inl ⟨by rfl, fun V hV => (by obtain ⟨v0, v1, v2, v3⟩ := hV; go_simp)⟩) hHeld ?_
        try simp only [Act.put]
        refine till_take 6 (v := .agg #[.string s, .int .i64 (x : Int)]) rfl (by decide) (by kernel_rfl) (by kernel_rfl) (by kernel_rfl) (by kernel_rfl) (by kernel_rfl) (fun _ _ _ h => h) (Or.inl ⟨by rfl, fun V hV => (by obtain ⟨v0, v1, v2, v3⟩ := hV; go_simp)⟩) hHeld ?_
        try simp only [Act.put]
        refine till_step 7 rfl (by decide) (by kernel_rfl) (fun K hK => ?_)
        go_simp
        refine hK.out _ _ HS7.out (fun hHeld => ?_)
        clear hK K
        refine till_step 8 rfl (by decide) (by kernel_rfl) (fun K hK => ?_)
        refine step_append_lies _ rfl _ _ 33 rfl W.heap.size 58 i1 (.agg #[.string ⟨#[]⟩, .int .i64 0]) 2 24 Tryz.underlying33 hi1 hy0 hy1 hy2 rfl (by decide) _ H.length (encH H) rfl HRA.out ⟨w6.heap.size, 0, none⟩ 1 1 [.string s, .int .i64 (x : Int)] rfl rfl (cell_pair_new _ _ _ _) (by simp [Value.oneCell']) (by decide) (by simp only [maxLen]; omega) (by omega) (by simp; omega) _ rfl ?_
        intro g8 cap8 w8 h8 h7 _ _
        obtain ⟨P1, P2, P3, P4, P5, P6⟩ := HRh.out g8 cap8 w8 h8 h7
        have i0 : w8.cell? ⟨db, 0, none⟩ = some (.pointer (some ⟨D, 0, none⟩)) := by rw [cell_of_row _ _ _ _ _ _ P3]; rfl
        have i1' : w8.cell? ⟨D, 1, none⟩ = some (.slice (some ⟨g, 0, none⟩) H.length cp) := by rw [cell_of_row _ _ _ _ _ _ P2]; rfl
        have i2 : w8.cell? ⟨hb', 0, none⟩ = some (.string s) := by rw [cell_of_row _ _ _ _ _ _ P6]; rfl
        have i3 : w8.cell? ⟨hb', 1, none⟩ = some (.int .i64 (x : Int)) := by rw [cell_of_row _ _ _ _ _ _ P6]; rfl
        have nf : w8.frozen? ⟨D, 1, none⟩ = false := frozen_of_row _ _ _ _ _ P2
        have hDd : D ≠ db := fun e => by rw [e, P3] at P2; simp at P2
        have HD9 : Hid (DeskAt (w8.setCell ⟨D, 1, none⟩ (.slice (some ⟨g8, 0, none⟩) (H.length + 1) cap8)) W.heap.size D C (H ++ [(s, (x : Int))]) [(x : Int)]) := P1
        have HB9 : Hid (Below w.heap.size w (w8.setCell ⟨D, 1, none⟩ (.slice (some ⟨g8, 0, none⟩) (H.length + 1) cap8))) := (b6w.trans (P4.mono HWw.out)).setCell (p := ⟨D, 1, none⟩) (by show _ ≤ D; have := HWw.out; omega) _
        have HR9 : Hid ((w8.setCell ⟨D, 1, none⟩ (.slice (some ⟨g8, 0, none⟩) (H.length + 1) cap8)).heap[R]? = some (.cells #[.slice none 0 0, .slice none 0 0] 35 (0, 0))) := by
          unfold Hid
          rw [heap_setCell_other _ _ _ _ (show R ≠ D by omega)]
          exact P5
        have Hd9 : Hid ((w8.setCell ⟨D, 1, none⟩ (.slice (some ⟨g8, 0, none⟩) (H.length + 1) cap8)).heap[db]? = some (.cells #[.pointer (some ⟨D, 0, none⟩)] 106 (0, 0))) := by
          unfold Hid
          rw [heap_setCell_other _ _ _ _ (show db ≠ D from fun e => hDd e.symm)]
          exact P3
        have HY9 : Hid ((w8.setCell ⟨D, 1, none⟩ (.slice (some ⟨g8, 0, none⟩) (H.length + 1) cap8)).heap[D]? = some (.cells #[x6, .slice (some ⟨g8, 0, none⟩) (H.length + 1) cap8, z6] 115 (0, 0))) := by
          unfold Hid
          rw [heap_setCell_same _ _ _ _ _ _ P2]; rfl
        clear P1 P2 P3 P4 P5 P6 h8 h7 hDd
        refine hK.out _ _ ⟨i0, i1', i2, i3⟩ (fun hHeld => ?_)
        clear hK K
        try simp only [Act.put]
        refine till_go 9 (v := .pointer (some ⟨D, 0, none⟩)) rfl (by decide) (by kernel_rfl) (by kernel_rfl) (by kernel_rfl) (fun _ _ _ h => h) (Or.inl ⟨by rfl, fun V _ => (by go_simp)⟩) hHeld ?_
        try simp only [Act.put]
        refine till_go 10 (v := .pointer (some ⟨D, 0, none⟩)) rfl (by decide) (by kernel_rfl) (by kernel_rfl) (by kernel_rfl) (fun _ _ _ h => h) (Or.inl ⟨by rfl, fun V _ => (by go_simp)⟩) hHeld ?_
        try simp only [Act.put]
        refine till_go 11 (v := .pointer (some ⟨D, 1, none⟩)) rfl (by decide) (by kernel_rfl) (by kernel_rfl) (by kernel_rfl) (fun _ _ _ h => h) (Or.inl ⟨by rfl, fun V _ => (by go_simp)⟩) hHeld ?_
        try simp only [Act.put]
        refine till_last rfl (by kernel_rfl) (by kernel_rfl) (fun K hK => ?_) _
        go_simp
        refine hK.out _ _ ?_
        clear hK K hHeld
        obtain ⟨w9, hw9⟩ : ∃ w9, w9 = w8.setCell ⟨D, 1, none⟩ (.slice (some ⟨g8, 0, none⟩) (H.length + 1) cap8) := ⟨_, rfl⟩
        rw [← hw9] at HD9 HB9 HR9 Hd9 HY9 ⊢
        have y9 : w9.cell? ⟨D, 1, none⟩ = some (.slice (some ⟨g8, 0, none⟩) (H.length + 1) cap8) := by rw [cell_of_row _ _ _ _ _ _ HY9.out]; rfl
        have d9 : w9.cell? ⟨db, 0, none⟩ = some (.pointer (some ⟨D, 0, none⟩)) := by rw [cell_of_row _ _ _ _ _ _ Hd9.out]; rfl
        have hD9l : D < w9.heap.size := (Array.getElem?_eq_some_iff.1 HY9.out).1
        have hd9l : db < w9.heap.size := (Array.getElem?_eq_some_iff.1 Hd9.out).1
        have hR9l : R < w9.heap.size := (Array.getElem?_eq_some_iff.1 HR9.out).1
        have hL : (H ++ [(s, (x : Int))]).length = H.length + 1 := by simp
        obtain ⟨HSrt, HSo⟩ : Hid (Calls Tryz.prog 80 #[.slice (some ⟨g8, 0, none⟩) (H.length + 1) cap8, .func (.func 81) #[] #[]] w9 fun e w' => e = .returned (.tuple #[]) ∧ OwnH w' W.heap.size (.slice (some ⟨g8, 0, none⟩) (H.length + 1) cap8) (M.insH (s, (x : Int)) H) ∧ w9.grownBy w' (some g8)) ∧
            Aside (∀ w', OwnH w' W.heap.size (.slice (some ⟨g8, 0, none⟩) (H.length + 1) cap8) (M.insH (s, (x : Int)) H) → w9.grownBy w' (some g8) → DeskAt w' W.heap.size D C (M.insH (s, (x : Int)) H) [(x : Int)] ∧ Below w.heap.size w w' ∧ w'.heap[R]? = some (.cells #[.slice none 0 0, .slice none 0 0] 35 (0, 0)) ∧ w'.heap[db]? = some (.cells #[.pointer (some ⟨D, 0, none⟩)] 106 (0, 0))) := by
          obtain ⟨xx, yy, zz, a1, a2', a3, a4, a5⟩ := HD9.out
          rw [HY9.out] at a1
          simp only [Option.some.injEq, Obj.cells.injEq] at a1
          have u1 := congrArg (fun a : Array Value => a[0]?) a1.1
          have u2 := congrArg (fun a : Array Value => a[1]?) a1.1
          have u3 := congrArg (fun a : Array Value => a[2]?) a1.1
          simp only [List.getElem?_toArray, List.getElem?_cons_zero, List.getElem?_cons_succ, Option.some.injEq] at u1 u2 u3
          subst u1 u2 u3
          obtain ⟨cur9, hg9, hgb9, hcp9⟩ : ∃ cur, w9.heap[g8]? = some (.cells cur 58 (0, 0)) ∧ W.heap.size ≤ g8 ∧ H.length + 1 ≤ cap8 := by
            rcases a4.1.2 with ⟨e, _⟩ | ⟨g', cap', cur, e, hb', hh, hc', _⟩
            · simp at e
            · simp only [Value.slice.injEq, Option.some.injEq, Addr.mk.injEq] at e
              obtain ⟨⟨rfl, _⟩, _, rfl⟩ := e
              exact ⟨cur, hh, hb', by rw [hL] at hc'; exact hc'⟩
          refine ⟨?_, fun w' ho hg => ?_⟩
          · have K := hsort_any W.heap.size g8 cap8 H (s, (x : Int)) w9 (by rw [hL]; exact a4) (by rw [hL]; exact hcp9) HRise.out hH1 (by omega)
            rw [hL] at K
            exact K
          · have hDg : D ≠ g8 := fun e => by rw [← e, HY9.out] at hg9; simp at hg9
            have hdg : db ≠ g8 := fun e => by rw [← e, Hd9.out] at hg9; simp at hg9
            have hRg : R ≠ g8 := fun e => by rw [← e, HR9.out] at hg9; simp at hg9
            refine ⟨⟨_, _, _, (hg.block D hD9l (by simp [hDg])).trans HY9.out, a2', a3.elsewhere hg hg9 (by decide) (by decide) (by decide), ho, ownsRow_elsewhere a5 hg fun r hr cur' he => by cases hr; rw [hg9] at he; simp at he⟩, HB9.out.trans (below_of_grown hg (by have := HWw.out; omega) HB9.out.size), (hg.block R hR9l (by simp [hRg])).trans HR9.out, (hg.block db hd9l (by simp [hdg])).trans Hd9.out⟩
        clear hw9 i0 i1' i2 i3 nf n0 n1 n2 n3 HS7 HRA HRh HD9 HB9 HR9 Hd9 HY9 hD9l hd9l hR9l hL
        go_wp2_with fail
        refine HSrt.out.mono ?_
        rintro e w10 ⟨rfl, ho10, hg10⟩
        obtain ⟨hd8, w8b, w8r, d8⟩ := HSo.out w10 ho10 hg10
        clear ho10 hg10 HSrt HSo y9 d9
        have m0 : w10.cell? ⟨db, 0, none⟩ = some (.pointer (some ⟨D, 0, none⟩)) := by rw [cell_of_row _ _ _ _ _ _ d8]; rfl
        obtain ⟨x8, y8, z8, e8, _, o8, h8, _⟩ := hd8
        obtain ⟨xa8, xc8, rfl, _⟩ := o8.cm
        obtain ⟨ya8, yc8, rfl, _⟩ := h8.hs
        generalize hln : (C).length = ln at *
        generalize hlh : (M.insH (s, (x : Int)) H).length = lh at *
        have m1 : w10.cell? ⟨D, 0, none⟩ = some (.slice xa8 ln xc8) := by rw [cell_of_row _ _ _ _ _ _ e8]; rfl
        have m2 : w10.cell? ⟨D, 1, none⟩ = some (.slice ya8 lh yc8) := by rw [cell_of_row _ _ _ _ _ _ e8]; rfl
        have HRO : Aside (RepoOwn ((w10.setCell ⟨R, 0, none⟩ (.slice xa8 ln xc8)).setCell ⟨R, 1, none⟩ (.slice ya8 lh yc8)) w.heap.size (.agg #[.slice xa8 ln xc8, .slice ya8 lh yc8]) (M.brC C H s t) (M.brH C H s t)) := by unfold Aside; rw [EC.out.1, EC.out.2]; exact (repoOwn_set w8r o8 h8).lower HWw.out
        obtain ⟨g1, g2, g3⟩ := res_set w8r (.slice xa8 ln xc8) (.slice ya8 lh yc8)
        obtain ⟨X, hX⟩ : ∃ X, X = (w10.setCell ⟨R, 0, none⟩ (.slice xa8 ln xc8)).setCell ⟨R, 1, none⟩ (.slice ya8 lh yc8) := ⟨_, rfl⟩
        rw [← hX] at g1 HRO
        have bX : Below w.heap.size w X := by rw [hX]; exact (w8b.setCell (p := ⟨R, 0, none⟩) (by show _ ≤ R; have := HPR.out; omega) _).setCell (p := ⟨R, 1, none⟩) (by show _ ≤ R; have := HPR.out; omega) _
        have HX9 : Hid (X = (w10.setCell ⟨R, 0, none⟩ (.slice xa8 ln xc8)).setCell ⟨R, 1, none⟩ (.slice ya8 lh yc8)) := hX
        have HX0 : Aside (X.cell? ⟨R, 0, none⟩ = some (.slice xa8 ln xc8)) := by unfold Aside; rw [cell_of_row _ _ _ _ _ _ g1]; rfl
        have HX1 : Aside (X.cell? ⟨R, 1, none⟩ = some (.slice ya8 lh yc8)) := by unfold Aside; rw [cell_of_row _ _ _ _ _ _ g1]; rfl
        have x0 : w10.cell? ⟨R, 0, none⟩ = some (.slice none 0 0) := by rw [cell_of_row _ _ _ _ _ _ w8r]; rfl
        have x1 : w10.cell? ⟨R, 1, none⟩ = some (.slice none 0 0) := by rw [cell_of_row _ _ _ _ _ _ w8r]; rfl
        have f0 : w10.frozen? ⟨R, 0, none⟩ = false := frozen_of_row _ _ _ _ _ w8r
        have f1 : w10.frozen? ⟨R, 1, none⟩ = false := frozen_of_row _ _ _ _ _ w8r
        clear g1 g2 g3 hX w8r e8 o8 h8 d8 hln hlh
        go_wp2
        rw [← HX9.out]
        have y0 := HX0.out
        have y1 := HX1.out
        refine bodyPost_ret (v := .tuple #[.agg #[.slice xa8 ln xc8, .slice ya8 lh yc8], .int .i64 0]) (by simp [results, Tryz.results40, go_sem, y0, y1]) rfl ?_
        exact ⟨_, ret_two' E0.out.symm, HRO.out, bX⟩
      · have hne : (c != 0) = true := by simp [hc0]
        have EC : Aside (M.brC C H s t = [] ∧ M.brH C H s t = []) := ⟨by unfold M.brC; rw [HE.out, if_neg hc0], by unfold M.brH; rw [HE.out, if_neg hc0]⟩
        obtain ⟨g1, g2, g3⟩ := res_set r6 (.slice none 0 0) (.slice none 0 0)
        obtain ⟨X, hX⟩ : ∃ X, X = (w6.setCell ⟨R, 0, none⟩ (.slice none 0 0)).setCell ⟨R, 1, none⟩ (.slice none 0 0) := ⟨_, rfl⟩
        rw [← hX] at g1
        have bX : Below w.heap.size w X := by rw [hX]; exact (b6w.setCell (p := ⟨R, 0, none⟩) (by show _ ≤ R; have := HPR.out; omega) _).setCell (p := ⟨R, 1, none⟩) (by show _ ≤ R; have := HPR.out; omega) _
        have gX := g1
        have HX9 : Hid (X = (w6.setCell ⟨R, 0, none⟩ (.slice none 0 0)).setCell ⟨R, 1, none⟩ (.slice none 0 0)) := hX
        have HX0 : Aside (X.cell? ⟨R, 0, none⟩ = some (.slice none 0 0)) := by unfold Aside; rw [cell_of_row _ _ _ _ _ _ gX]; rfl
        have HX1 : Aside (X.cell? ⟨R, 1, none⟩ = some (.slice none 0 0)) := by unfold Aside; rw [cell_of_row _ _ _ _ _ _ gX]; rfl
        have x0 : w6.cell? ⟨R, 0, none⟩ = some (.slice none 0 0) := by rw [cell_of_row _ _ _ _ _ _ r6]; rfl
        have x1 : w6.cell? ⟨R, 1, none⟩ = some (.slice none 0 0) := by rw [cell_of_row _ _ _ _ _ _ r6]; rfl
        have f0 : w6.frozen? ⟨R, 0, none⟩ = false := frozen_of_row _ _ _ _ _ r6
        have f1 : w6.frozen? ⟨R, 1, none⟩ = false := frozen_of_row _ _ _ _ _ r6
        clear g1 g2 g3 hX gX r6 hc0 HKF b6
        go_wp2
        rw [← HX9.out]
        have y0 := HX0.out
        have y1 := HX1.out
        refine bodyPost_ret (v := .tuple #[.agg #[.slice none 0 0, .slice none 0 0], .int .i64 c]) (by simp [results, Tryz.results40, go_sem, y0, y1]) rfl ?_
        refine ⟨_, ret_two' HE.out.symm, ?_, bX⟩
        rw [EC.out.1, EC.out.2]; exact RepoOwn.none _ _
end Go.Proofs.YtcgpgflnihjpiagGreat

/- Rep4. -/
namespace Go.Proofs.YtcgpgflnihjpiagGreat.M
open Go.RowKit
theorem put_parts {C : List Com} {H : List Hd} {s : ByteArray} {d : List Chg} (h : wpE C H s d = 0) :
    hchk C H s = 0 ∧ fine d = true ∧ d.length ≠ 0 ∧ C.length < 14 ∧ patchE (C.getD (hat C H s).toNat ([], [])).1 d = 0 ∧ wpC C H s d = C ++ [(patchV (C.getD (hat C H s).toNat ([], [])).1 d, [hat C H s])] ∧ wpH C H s d = setH H (plc H s).toNat C.length := by
  have e1 : wpC C H s d = C ++ [(patchV (C.getD (hat C H s).toNat ([], [])).1 d, [hat C H s])] := by unfold wpC; rw [if_pos h]
  have e2 : wpH C H s d = setH H (plc H s).toNat C.length := by unfold wpH; rw [if_pos h]; rfl
  unfold wpE at h
  split at h
  · rename_i h1; exact absurd h h1
  · rename_i h1
    split at h
    · omega
    · rename_i h2
      split at h
      · omega
      · rename_i h3
        split at h
        · omega
        · rename_i h4
          exact ⟨by simpa using h1, by simpa using h2, h3, by omega, h, e1, e2⟩
end Go.Proofs.YtcgpgflnihjpiagGreat.M

/- Act0. -/
namespace Go.Proofs.YtcgpgflnihjpiagGreat.M
open Go.RowKit
def doE (C : List Com) (H : List Hd) (x : Act) : Int :=
  if x.kind = 1 then wpE C H (str x.one) x.chs else if x.kind = 2 then brE C H (str x.one) (str x.two) else if x.kind = 3 then joinE C H (str x.one) (str x.two) else if x.kind = 4 then dropE C H (str x.one) else 8
def doC (C : List Com) (H : List Hd) (x : Act) : List Com :=
  if x.kind = 1 then wpC C H (str x.one) x.chs else if x.kind = 2 then brC C H (str x.one) (str x.two) else if x.kind = 3 then joinC C H (str x.one) (str x.two) else if x.kind = 4 then dropC C H (str x.one) else []
def doH (C : List Com) (H : List Hd) (x : Act) : List Hd :=
  if x.kind = 1 then wpH C H (str x.one) x.chs else if x.kind = 2 then brH C H (str x.one) (str x.two) else if x.kind = 3 then joinH C H (str x.one) (str x.two) else if x.kind = 4 then dropH C H (str x.one) else []
def begC : List Com := [([], [])]
def begH : List Hd := [(⟨#[109, 97, 105, 110]⟩, 0)]
def doneF (r : List Com × List Hd) : List Act → List Com × List Hd
  | [] => r
  | x :: t => doneF (if doE r.1 r.2 x = 0 then (doC r.1 r.2 x, doH r.1 r.2 x) else r) t
def done (l : List Act) : List Com × List Hd := doneF (begC, begH) l
theorem doneF_snoc (r : List Com × List Hd) (l : List Act) (x : Act) : doneF r (l ++ [x]) = if doE (doneF r l).1 (doneF r l).2 x = 0 then (doC (doneF r l).1 (doneF r l).2 x, doH (doneF r l).1 (doneF r l).2 x) else doneF r l := by
  induction l generalizing r with
  | nil => rfl
  | cons y t ih => rw [List.cons_append, doneF, ih]; rfl
theorem done_take (l : List Act) (k : Nat) (h : k < l.length) : done (l.take (k + 1)) = if doE (done (l.take k)).1 (done (l.take k)).2 l[k] = 0 then (doC (done (l.take k)).1 (done (l.take k)).2 l[k], doH (done (l.take k)).1 (done (l.take k)).2 l[k]) else done (l.take k) := by
  rw [List.take_succ_eq_append_getElem h]
  exact doneF_snoc _ _ _
end Go.Proofs.YtcgpgflnihjpiagGreat.M

/- WDo. -/
namespace Go.Proofs.YtcgpgflnihjpiagGreat
open Go.RowKit Go.Shelf Go.Maps
set_option maxRecDepth 100000 in
set_option maxHeartbeats 16000000 in
theorem do_any (a : Option Addr) (n cap : Nat) (C : List M.Com) (a2 : Option Addr) (n2 cap2 : Nat) (H : List M.Hd) (x : M.Act) (a3 : Option Addr) (m3 cap3 : Nat) (w : World) (hV : RepoV w a n cap C a2 n2 cap2 H) (hrc : Rc w a3 m3 x.chs) (hm3 : m3 ≤ 9223372036854775807) (hss : (M.str x.one).size ≤ 9223372036854775807) :
    Calls Tryz.prog 14 #[.agg #[.slice a n cap, .slice a2 n2 cap2], actV x a3 m3 cap3] w fun e w' => ∃ v, e = .returned (.tuple #[v, .int .i64 (M.doE C H x)]) ∧ RepoOwn w' w.heap.size v (M.doC C H x) (M.doH C H x) ∧ Below w.heap.size w w' := by
  obtain ⟨p, hp⟩ : ∃ p, p = w.heap.size := ⟨_, rfl⟩
  obtain ⟨k, hk⟩ : ∃ k, k = x.kind := ⟨_, rfl⟩
  obtain ⟨s, hs⟩ : ∃ s, s = M.str x.one := ⟨_, rfl⟩
  obtain ⟨t, ht⟩ : ∃ t, t = M.str x.two := ⟨_, rfl⟩
  obtain ⟨d, hd⟩ : ∃ d, d = x.chs := ⟨_, rfl⟩
  obtain ⟨E, hE⟩ : ∃ E, E = M.doE C H x := ⟨_, rfl⟩
  obtain ⟨C', hC'⟩ : ∃ C', C' = M.doC C H x := ⟨_, rfl⟩
  obtain ⟨H', hH'⟩ : ∃ H', H' = M.doH C H x := ⟨_, rfl⟩
  have HEs : Hid (E = (if k = 1 then M.wpE C H s d else if k = 2 then M.brE C H s t else if k = 3 then M.joinE C H s t else if k = 4 then M.dropE C H s else 8) ∧ C' = (if k = 1 then M.wpC C H s d else if k = 2 then M.brC C H s t else if k = 3 then M.joinC C H s t else if k = 4 then M.dropC C H s else []) ∧ H' = (if k = 1 then M.wpH C H s d else if k = 2 then M.brH C H s t else if k = 3 then M.joinH C H s t else if k = 4 then M.dropH C H s else [])) := by
    unfold Hid
    rw [hE, hC', hH', hk, hs, ht, hd]
    exact ⟨rfl, rfl, rfl⟩
  rw [← hd] at hrc
  rw [← hs] at hss
  unfold actV
  rw [← hE, ← hC', ← hH', ← hk, ← hs, ← ht]
  obtain ⟨W, hW⟩ : ∃ W, W = ((w.alloc (.cells #[.slice a n cap, .slice a2 n2 cap2] 35)).alloc (.cells #[.int .i64 k, .string s, .string t, .slice a3 m3 cap3] 30)).alloc (.cells #[.slice none 0 0, .slice none 0 0] 35) := ⟨_, rfl⟩
  obtain ⟨R, hR⟩ : ∃ R, R = p + 1 + 1 := ⟨_, rfl⟩
  have hb : Below w.heap.size w W := by rw [hW]; exact (((Below.refl _ _).alloc (Nat.le_refl _) _).alloc (by simp) _).alloc (by simp; omega) _
  have hsz : W.heap.size = R + 1 := by rw [hW, hR, hp]; simp
  have q2 : W.heap[R]? = some (.cells #[.slice none 0 0, .slice none 0 0] 35 (0, 0)) := by
    rw [hW, show R = ((w.alloc (.cells #[.slice a n cap, .slice a2 n2 cap2] 35)).alloc (.cells #[.int .i64 k, .string s, .string t, .slice a3 m3 cap3] 30)).heap.size by rw [hR, hp]; simp]
    exact heap_alloc_new _ _
  have c0 : W.cell? ⟨p, 0, none⟩ = some (.slice a n cap) := by rw [hW, hp]; simp [go_sem]
  have c1 : W.cell? ⟨p, 1, none⟩ = some (.slice a2 n2 cap2) := by rw [hW, hp]; simp [go_sem]
  have k0 : W.cell? ⟨p + 1, 0, none⟩ = some (.int .i64 k) := by rw [hW, hp]; simp [go_sem]
  have k1 : W.cell? ⟨p + 1, 1, none⟩ = some (.string s) := by rw [hW, hp]; simp [go_sem]
  have k2 : W.cell? ⟨p + 1, 2, none⟩ = some (.string t) := by rw [hW, hp]; simp [go_sem]
  have k3 : W.cell? ⟨p + 1, 3, none⟩ = some (.slice a3 m3 cap3) := by rw [hW, hp]; simp [go_sem]
  have F1 : Hid (Calls Tryz.prog 39 #[.agg #[.slice a n cap, .slice a2 n2 cap2], .string s, .slice a3 m3 cap3] W fun e w' => ∃ v, e = .returned (.tuple #[v, .int .i64 (M.wpE C H s d)]) ∧ RepoOwn w' W.heap.size v (M.wpC C H s d) (M.wpH C H s d) ∧ Below W.heap.size W w') := wput_any a n cap C a2 n2 cap2 H s a3 m3 cap3 d W (hV.later hb) (hrc.below hb (Nat.le_refl _)) hm3
  have F2 : Hid (Calls Tryz.prog 40 #[.agg #[.slice a n cap, .slice a2 n2 cap2], .string s, .string t] W fun e w' => ∃ v, e = .returned (.tuple #[v, .int .i64 (M.brE C H s t)]) ∧ RepoOwn w' W.heap.size v (M.brC C H s t) (M.brH C H s t) ∧ Below W.heap.size W w') := wbranch_any a n cap C a2 n2 cap2 H s t W (hV.later hb) hss
  have F3 : Hid (Calls Tryz.prog 41 #[.agg #[.slice a n cap, .slice a2 n2 cap2], .string s, .string t] W fun e w' => ∃ v kb kn kc, e = .returned (.tuple #[v, .slice kb kn kc, .int .i64 (M.joinE C H s t)]) ∧ RepoOwn w' W.heap.size v (M.joinC C H s t) (M.joinH C H s t) ∧ Below W.heap.size W w') := (wmerge_any a n cap C a2 n2 cap2 H s t W (hV.later hb)).mono fun e w' ⟨v, kb, kn, kc, h1, h2, _, _, _, h3⟩ => ⟨v, kb, kn, kc, h1, h2, h3⟩
  have F4 : Hid (Calls Tryz.prog 42 #[.agg #[.slice a n cap, .slice a2 n2 cap2], .string s] W fun e w' => ∃ v, e = .returned (.tuple #[v, .int .i64 (M.dropE C H s)]) ∧ RepoOwn w' W.heap.size v (M.dropC C H s) (M.dropH C H s) ∧ Below W.heap.size W w') := wdrop_any a n cap C a2 n2 cap2 H s W (hV.later hb)
  have HW : Hid (W = ((w.alloc (.cells #[.slice a n cap, .slice a2 n2 cap2] 35)).alloc (.cells #[.int .i64 k, .string s, .string t, .slice a3 m3 cap3] 30)).alloc (.cells #[.slice none 0 0, .slice none 0 0] 35)) := hW
  have HP : Aside (p = w.heap.size) := hp
  have HR : Aside (R = p + 1 + 1) := hR
  have HPR : Aside (w.heap.size ≤ p) := by unfold Aside; omega
  have HSz : Aside (W.heap.size = R + 1) := hsz
  have HQ2 : Hid (W.heap[R]? = some (.cells #[.slice none 0 0, .slice none 0 0] 35 (0, 0))) := q2
  have hpR : p + 1 < R := by omega
  clear hW hp hR hV hrc hss hk hs ht hd hE hC' hH' q2 hsz
  by_cases h1 : k = 1
  · subst h1
    obtain ⟨E1, hE1⟩ : ∃ E1, E1 = M.wpE C H s d := ⟨_, rfl⟩
    rw [← hE1] at F1
    have HE1 : Aside (E1 = M.wpE C H s d) := hE1
    clear hE1 F2 F3 F4
    have hEE : E = E1 ∧ C' = (M.wpC C H s d) ∧ H' = (M.wpH C H s d) := by
      obtain ⟨h1, h2, h3⟩ := HEs.out
      simp at h1 h2 h3
      exact ⟨h1.trans HE1.out.symm, h2, h3⟩
    have HEE : Hid (E = E1 ∧ C' = (M.wpC C H s d) ∧ H' = (M.wpH C H s d)) := hEE
    clear hEE
    have c0r := c0
    have c1r := c1
    have k0r := k0
    have k1r := k1
    have k2r := k2
    have k3r := k3
    rw [HW.out, HP.out] at c0r c1r k0r k1r k2r k3r
    go_enter Tryz.func14, Tryz.ntmps14
    go_wp2_with fail
    rw [← HW.out, ← HP.out, ← HR.out]
    clear c0r c1r k0r k1r k2r k3r
    refine F1.out.mono ?_
    rintro e w1 ⟨v, rfl, o1, b1⟩
    have hb1 : Below w.heap.size w w1 := hb.trans (b1.mono hb.size)
    have r1 : w1.heap[R]? = some (.cells #[.slice none 0 0, .slice none 0 0] 35 (0, 0)) := (b1.block R (by have := HSz.out; omega)).trans HQ2.out
    obtain ⟨xa8, xc8, ya8, yc8, rfl, _⟩ := o1.v
    generalize hln : (M.wpC C H s d).length = ln8 at *
    generalize hlh : (M.wpH C H s d).length = lh8 at *
    obtain ⟨q1, q2, hqq, o91, o92⟩ := o1
    obtain ⟨rfl, rfl⟩ : q1 = .slice xa8 ln8 xc8 ∧ q2 = .slice ya8 lh8 yc8 := by simp at hqq; exact ⟨hqq.1.symm, hqq.2.symm⟩
    have HRO : Aside (RepoOwn ((w1.setCell ⟨R, 0, none⟩ (.slice xa8 ln8 xc8)).setCell ⟨R, 1, none⟩ (.slice ya8 lh8 yc8)) w.heap.size (.agg #[.slice xa8 ln8 xc8, .slice ya8 lh8 yc8]) C' H') := by unfold Aside; rw [HEE.out.2.1, HEE.out.2.2]; exact (repoOwn_set r1 o91 o92).lower hb.size
    obtain ⟨g1, g2, g3⟩ := res_set r1 (.slice xa8 ln8 xc8) (.slice ya8 lh8 yc8)
    obtain ⟨X, hX⟩ : ∃ X, X = (w1.setCell ⟨R, 0, none⟩ (.slice xa8 ln8 xc8)).setCell ⟨R, 1, none⟩ (.slice ya8 lh8 yc8) := ⟨_, rfl⟩
    rw [← hX] at g1 HRO
    have bX : Below w.heap.size w X := by rw [hX]; exact (hb1.setCell (p := ⟨R, 0, none⟩) (by show _ ≤ R; have := HPR.out; omega) _).setCell (p := ⟨R, 1, none⟩) (by show _ ≤ R; have := HPR.out; omega) _
    have HX9 : Hid (X = (w1.setCell ⟨R, 0, none⟩ (.slice xa8 ln8 xc8)).setCell ⟨R, 1, none⟩ (.slice ya8 lh8 yc8)) := hX
    have HX0 : Aside (X.cell? ⟨R, 0, none⟩ = some (.slice xa8 ln8 xc8)) := by unfold Aside; rw [cell_of_row _ _ _ _ _ _ g1]; rfl
    have HX1 : Aside (X.cell? ⟨R, 1, none⟩ = some (.slice ya8 lh8 yc8)) := by unfold Aside; rw [cell_of_row _ _ _ _ _ _ g1]; rfl
    have x0 : w1.cell? ⟨R, 0, none⟩ = some (.slice none 0 0) := by rw [cell_of_row _ _ _ _ _ _ r1]; rfl
    have x1 : w1.cell? ⟨R, 1, none⟩ = some (.slice none 0 0) := by rw [cell_of_row _ _ _ _ _ _ r1]; rfl
    have f0 : w1.frozen? ⟨R, 0, none⟩ = false := frozen_of_row _ _ _ _ _ r1
    have f1 : w1.frozen? ⟨R, 1, none⟩ = false := frozen_of_row _ _ _ _ _ r1
    clear g1 g2 g3 hX r1 o91 o92 hqq hln hlh b1 c0 c1 k0 k1 k2 k3
    go_wp2
    rw [← HX9.out]
    have y0 := HX0.out
    have y1 := HX1.out
    refine bodyPost_ret (v := .tuple #[.agg #[.slice xa8 ln8 xc8, .slice ya8 lh8 yc8], .int .i64 E1]) (by simp [results, Tryz.results14, go_sem, y0, y1]) rfl ?_
    exact ⟨_, ret_two' HEE.out.1.symm, HRO.out, bX⟩
  have h1b : (k == 1) = false := by simp [h1]
  by_cases h2 : k = 2
  · subst h2
    obtain ⟨E1, hE1⟩ : ∃ E1, E1 = M.brE C H s t := ⟨_, rfl⟩
    rw [← hE1] at F2
    have HE1 : Aside (E1 = M.brE C H s t) := hE1
    clear hE1 F1 F3 F4
    have hEE : E = E1 ∧ C' = (M.brC C H s t) ∧ H' = (M.brH C H s t) := by
      obtain ⟨h1, h2, h3⟩ := HEs.out
      simp at h1 h2 h3
      exact ⟨h1.trans HE1.out.symm, h2, h3⟩
    have HEE : Hid (E = E1 ∧ C' = (M.brC C H s t) ∧ H' = (M.brH C H s t)) := hEE
    clear hEE
    have c0r := c0
    have c1r := c1
    have k0r := k0
    have k1r := k1
    have k2r := k2
    have k3r := k3
    rw [HW.out, HP.out] at c0r c1r k0r k1r k2r k3r
    go_enter Tryz.func14, Tryz.ntmps14
    go_wp2_with fail
    rw [← HW.out, ← HP.out, ← HR.out]
    clear c0r c1r k0r k1r k2r k3r
    refine F2.out.mono ?_
    rintro e w1 ⟨v, rfl, o1, b1⟩
    have hb1 : Below w.heap.size w w1 := hb.trans (b1.mono hb.size)
    have r1 : w1.heap[R]? = some (.cells #[.slice none 0 0, .slice none 0 0] 35 (0, 0)) := (b1.block R (by have := HSz.out; omega)).trans HQ2.out
    obtain ⟨xa8, xc8, ya8, yc8, rfl, _⟩ := o1.v
    generalize hln : (M.brC C H s t).length = ln8 at *
    generalize hlh : (M.brH C H s t).length = lh8 at *
    obtain ⟨q1, q2, hqq, o91, o92⟩ := o1
    obtain ⟨rfl, rfl⟩ : q1 = .slice xa8 ln8 xc8 ∧ q2 = .slice ya8 lh8 yc8 := by simp at hqq; exact ⟨hqq.1.symm, hqq.2.symm⟩
    have HRO : Aside (RepoOwn ((w1.setCell ⟨R, 0, none⟩ (.slice xa8 ln8 xc8)).setCell ⟨R, 1, none⟩ (.slice ya8 lh8 yc8)) w.heap.size (.agg #[.slice xa8 ln8 xc8, .slice ya8 lh8 yc8]) C' H') := by unfold Aside; rw [HEE.out.2.1, HEE.out.2.2]; exact (repoOwn_set r1 o91 o92).lower hb.size
    obtain ⟨g1, g2, g3⟩ := res_set r1 (.slice xa8 ln8 xc8) (.slice ya8 lh8 yc8)
    obtain ⟨X, hX⟩ : ∃ X, X = (w1.setCell ⟨R, 0, none⟩ (.slice xa8 ln8 xc8)).setCell ⟨R, 1, none⟩ (.slice ya8 lh8 yc8) := ⟨_, rfl⟩
    rw [← hX] at g1 HRO
    have bX : Below w.heap.size w X := by rw [hX]; exact (hb1.setCell (p := ⟨R, 0, none⟩) (by show _ ≤ R; have := HPR.out; omega) _).setCell (p := ⟨R, 1, none⟩) (by show _ ≤ R; have := HPR.out; omega) _
    have HX9 : Hid (X = (w1.setCell ⟨R, 0, none⟩ (.slice xa8 ln8 xc8)).setCell ⟨R, 1, none⟩ (.slice ya8 lh8 yc8)) := hX
    have HX0 : Aside (X.cell? ⟨R, 0, none⟩ = some (.slice xa8 ln8 xc8)) := by unfold Aside; rw [cell_of_row _ _ _ _ _ _ g1]; rfl
    have HX1 : Aside (X.cell? ⟨R, 1, none⟩ = some (.slice ya8 lh8 yc8)) := by unfold Aside; rw [cell_of_row _ _ _ _ _ _ g1]; rfl
    have x0 : w1.cell? ⟨R, 0, none⟩ = some (.slice none 0 0) := by rw [cell_of_row _ _ _ _ _ _ r1]; rfl
    have x1 : w1.cell? ⟨R, 1, none⟩ = some (.slice none 0 0) := by rw [cell_of_row _ _ _ _ _ _ r1]; rfl
    have f0 : w1.frozen? ⟨R, 0, none⟩ = false := frozen_of_row _ _ _ _ _ r1
    have f1 : w1.frozen? ⟨R, 1, none⟩ = false := frozen_of_row _ _ _ _ _ r1
    clear g1 g2 g3 hX r1 o91 o92 hqq hln hlh b1 c0 c1 k0 k1 k2 k3
    go_wp2
    rw [← HX9.out]
    have y0 := HX0.out
    have y1 := HX1.out
    refine bodyPost_ret (v := .tuple #[.agg #[.slice xa8 ln8 xc8, .slice ya8 lh8 yc8], .int .i64 E1]) (by simp [results, Tryz.results14, go_sem, y0, y1]) rfl ?_
    exact ⟨_, ret_two' HEE.out.1.symm, HRO.out, bX⟩
  have h2b : (k == 2) = false := by simp [h2]
  by_cases h3 : k = 3
  · subst h3
    obtain ⟨E1, hE1⟩ : ∃ E1, E1 = M.joinE C H s t := ⟨_, rfl⟩
    rw [← hE1] at F3
    have HE1 : Aside (E1 = M.joinE C H s t) := hE1
    clear hE1 F1 F2 F4
    have hEE : E = E1 ∧ C' = (M.joinC C H s t) ∧ H' = (M.joinH C H s t) := by
      obtain ⟨h1, h2, h3⟩ := HEs.out
      simp at h1 h2 h3
      exact ⟨h1.trans HE1.out.symm, h2, h3⟩
    have HEE : Hid (E = E1 ∧ C' = (M.joinC C H s t) ∧ H' = (M.joinH C H s t)) := hEE
    clear hEE
    have c0r := c0
    have c1r := c1
    have k0r := k0
    have k1r := k1
    have k2r := k2
    have k3r := k3
    rw [HW.out, HP.out] at c0r c1r k0r k1r k2r k3r
    go_enter Tryz.func14, Tryz.ntmps14
    go_wp2_with fail
    rw [← HW.out, ← HP.out, ← HR.out]
    clear c0r c1r k0r k1r k2r k3r
    refine F3.out.mono ?_
    rintro e w1 ⟨v, kb, kn, kc, rfl, o1, b1⟩
    have hb1 : Below w.heap.size w w1 := hb.trans (b1.mono hb.size)
    have r1 : w1.heap[R]? = some (.cells #[.slice none 0 0, .slice none 0 0] 35 (0, 0)) := (b1.block R (by have := HSz.out; omega)).trans HQ2.out
    obtain ⟨xa8, xc8, ya8, yc8, rfl, _⟩ := o1.v
    generalize hln : (M.joinC C H s t).length = ln8 at *
    generalize hlh : (M.joinH C H s t).length = lh8 at *
    obtain ⟨q1, q2, hqq, o91, o92⟩ := o1
    obtain ⟨rfl, rfl⟩ : q1 = .slice xa8 ln8 xc8 ∧ q2 = .slice ya8 lh8 yc8 := by simp at hqq; exact ⟨hqq.1.symm, hqq.2.symm⟩
    obtain ⟨W2, hW2⟩ : ∃ W2, W2 = w1.alloc (.cells #[.slice xa8 ln8 xc8, .slice ya8 lh8 yc8] 35) := ⟨_, rfl⟩
    have b2 : Below w1.heap.size w1 W2 := by rw [hW2]; exact (Below.refl _ _).alloc (Nat.le_refl _) _
    have r2 : W2.heap[R]? = some (.cells #[.slice none 0 0, .slice none 0 0] 35 (0, 0)) := (b2.block R (Array.getElem?_eq_some_iff.1 r1).1).trans r1
    have hb2 : Below w.heap.size w W2 := hb1.trans (b2.mono hb1.size)
    have o91 := o91.later b2
    have o92 := o92.later b2
    have HW2 : Hid (W2 = w1.alloc (.cells #[.slice xa8 ln8 xc8, .slice ya8 lh8 yc8] 35)) := hW2
    have HRO : Aside (RepoOwn ((W2.setCell ⟨R, 0, none⟩ (.slice xa8 ln8 xc8)).setCell ⟨R, 1, none⟩ (.slice ya8 lh8 yc8)) w.heap.size (.agg #[.slice xa8 ln8 xc8, .slice ya8 lh8 yc8]) C' H') := by unfold Aside; rw [HEE.out.2.1, HEE.out.2.2]; exact (repoOwn_set r2 o91 o92).lower hb.size
    obtain ⟨g1, g2, g3⟩ := res_set r2 (.slice xa8 ln8 xc8) (.slice ya8 lh8 yc8)
    obtain ⟨X, hX⟩ : ∃ X, X = (W2.setCell ⟨R, 0, none⟩ (.slice xa8 ln8 xc8)).setCell ⟨R, 1, none⟩ (.slice ya8 lh8 yc8) := ⟨_, rfl⟩
    rw [← hX] at g1 HRO
    have bX : Below w.heap.size w X := by rw [hX]; exact (hb2.setCell (p := ⟨R, 0, none⟩) (by show _ ≤ R; have := HPR.out; omega) _).setCell (p := ⟨R, 1, none⟩) (by show _ ≤ R; have := HPR.out; omega) _
    have HX9 : Hid (X = (W2.setCell ⟨R, 0, none⟩ (.slice xa8 ln8 xc8)).setCell ⟨R, 1, none⟩ (.slice ya8 lh8 yc8)) := hX
    have HX0 : Aside (X.cell? ⟨R, 0, none⟩ = some (.slice xa8 ln8 xc8)) := by unfold Aside; rw [cell_of_row _ _ _ _ _ _ g1]; rfl
    have HX1 : Aside (X.cell? ⟨R, 1, none⟩ = some (.slice ya8 lh8 yc8)) := by unfold Aside; rw [cell_of_row _ _ _ _ _ _ g1]; rfl
    have x0 : W2.cell? ⟨R, 0, none⟩ = some (.slice none 0 0) := by rw [cell_of_row _ _ _ _ _ _ r2]; rfl
    have x1 : W2.cell? ⟨R, 1, none⟩ = some (.slice none 0 0) := by rw [cell_of_row _ _ _ _ _ _ r2]; rfl
    have f0 : W2.frozen? ⟨R, 0, none⟩ = false := frozen_of_row _ _ _ _ _ r2
    have f1 : W2.frozen? ⟨R, 1, none⟩ = false := frozen_of_row _ _ _ _ _ r2
    rw [hW2] at x0 x1 f0 f1
    clear g1 g2 g3 hX hW2 r1 r2 o91 o92 hqq hln hlh b1 b2 c0 c1 k0 k1 k2 k3
    go_wp2
    rw [← HW2.out, ← HX9.out]
    have y0 := HX0.out
    have y1 := HX1.out
    refine bodyPost_ret (v := .tuple #[.agg #[.slice xa8 ln8 xc8, .slice ya8 lh8 yc8], .int .i64 E1]) (by simp [results, Tryz.results14, go_sem, y0, y1]) rfl ?_
    exact ⟨_, ret_two' HEE.out.1.symm, HRO.out, bX⟩
  have h3b : (k == 3) = false := by simp [h3]
  by_cases h4 : k = 4
  · subst h4
    obtain ⟨E1, hE1⟩ : ∃ E1, E1 = M.dropE C H s := ⟨_, rfl⟩
    rw [← hE1] at F4
    have HE1 : Aside (E1 = M.dropE C H s) := hE1
    clear hE1 F1 F2 F3
    have hEE : E = E1 ∧ C' = (M.dropC C H s) ∧ H' = (M.dropH C H s) := by
      obtain ⟨h1, h2, h3⟩ := HEs.out
      simp at h1 h2 h3
      exact ⟨h1.trans HE1.out.symm, h2, h3⟩
    have HEE : Hid (E = E1 ∧ C' = (M.dropC C H s) ∧ H' = (M.dropH C H s)) := hEE
    clear hEE
    have c0r := c0
    have c1r := c1
    have k0r := k0
    have k1r := k1
    have k2r := k2
    have k3r := k3
    rw [HW.out, HP.out] at c0r c1r k0r k1r k2r k3r
    go_enter Tryz.func14, Tryz.ntmps14
    go_wp2_with fail
    rw [← HW.out, ← HP.out, ← HR.out]
    clear c0r c1r k0r k1r k2r k3r
    refine F4.out.mono ?_
    rintro e w1 ⟨v, rfl, o1, b1⟩
    have hb1 : Below w.heap.size w w1 := hb.trans (b1.mono hb.size)
    have r1 : w1.heap[R]? = some (.cells #[.slice none 0 0, .slice none 0 0] 35 (0, 0)) := (b1.block R (by have := HSz.out; omega)).trans HQ2.out
    obtain ⟨xa8, xc8, ya8, yc8, rfl, _⟩ := o1.v
    generalize hln : (M.dropC C H s).length = ln8 at *
    generalize hlh : (M.dropH C H s).length = lh8 at *
    obtain ⟨q1, q2, hqq, o91, o92⟩ := o1
    obtain ⟨rfl, rfl⟩ : q1 = .slice xa8 ln8 xc8 ∧ q2 = .slice ya8 lh8 yc8 := by simp at hqq; exact ⟨hqq.1.symm, hqq.2.symm⟩
    have HRO : Aside (RepoOwn ((w1.setCell ⟨R, 0, none⟩ (.slice xa8 ln8 xc8)).setCell ⟨R, 1, none⟩ (.slice ya8 lh8 yc8)) w.heap.size (.agg #[.slice xa8 ln8 xc8, .slice ya8 lh8 yc8]) C' H') := by unfold Aside; rw [HEE.out.2.1, HEE.out.2.2]; exact (repoOwn_set r1 o91 o92).lower hb.size
    obtain ⟨g1, g2, g3⟩ := res_set r1 (.slice xa8 ln8 xc8) (.slice ya8 lh8 yc8)
    obtain ⟨X, hX⟩ : ∃ X, X = (w1.setCell ⟨R, 0, none⟩ (.slice xa8 ln8 xc8)).setCell ⟨R, 1, none⟩ (.slice ya8 lh8 yc8) := ⟨_, rfl⟩
    rw [← hX] at g1 HRO
    have bX : Below w.heap.size w X := by rw [hX]; exact (hb1.setCell (p := ⟨R, 0, none⟩) (by show _ ≤ R; have := HPR.out; omega) _).setCell (p := ⟨R, 1, none⟩) (by show _ ≤ R; have := HPR.out; omega) _
    have HX9 : Hid (X = (w1.setCell ⟨R, 0, none⟩ (.slice xa8 ln8 xc8)).setCell ⟨R, 1, none⟩ (.slice ya8 lh8 yc8)) := hX
    have HX0 : Aside (X.cell? ⟨R, 0, none⟩ = some (.slice xa8 ln8 xc8)) := by unfold Aside; rw [cell_of_row _ _ _ _ _ _ g1]; rfl
    have HX1 : Aside (X.cell? ⟨R, 1, none⟩ = some (.slice ya8 lh8 yc8)) := by unfold Aside; rw [cell_of_row _ _ _ _ _ _ g1]; rfl
    have x0 : w1.cell? ⟨R, 0, none⟩ = some (.slice none 0 0) := by rw [cell_of_row _ _ _ _ _ _ r1]; rfl
    have x1 : w1.cell? ⟨R, 1, none⟩ = some (.slice none 0 0) := by rw [cell_of_row _ _ _ _ _ _ r1]; rfl
    have f0 : w1.frozen? ⟨R, 0, none⟩ = false := frozen_of_row _ _ _ _ _ r1
    have f1 : w1.frozen? ⟨R, 1, none⟩ = false := frozen_of_row _ _ _ _ _ r1
    clear g1 g2 g3 hX r1 o91 o92 hqq hln hlh b1 c0 c1 k0 k1 k2 k3
    go_wp2
    rw [← HX9.out]
    have y0 := HX0.out
    have y1 := HX1.out
    refine bodyPost_ret (v := .tuple #[.agg #[.slice xa8 ln8 xc8, .slice ya8 lh8 yc8], .int .i64 E1]) (by simp [results, Tryz.results14, go_sem, y0, y1]) rfl ?_
    exact ⟨_, ret_two' HEE.out.1.symm, HRO.out, bX⟩
  have h4b : (k == 4) = false := by simp [h4]
  have HEE : Hid (E = 8 ∧ C' = [] ∧ H' = []) := by
    obtain ⟨e1, e2, e3⟩ := HEs.out
    rw [if_neg h1, if_neg h2, if_neg h3, if_neg h4] at e1
    rw [if_neg h1, if_neg h2, if_neg h3, if_neg h4] at e2
    rw [if_neg h1, if_neg h2, if_neg h3, if_neg h4] at e3
    exact ⟨e1, e2, e3⟩
  have r1 := HQ2.out
  have HX0 : Aside (W.cell? ⟨R, 0, none⟩ = some (.slice none 0 0)) := by unfold Aside; rw [cell_of_row _ _ _ _ _ _ r1]; rfl
  have HX1 : Aside (W.cell? ⟨R, 1, none⟩ = some (.slice none 0 0)) := by unfold Aside; rw [cell_of_row _ _ _ _ _ _ r1]; rfl
  rw [HW.out, HP.out] at c0 c1 k0 k1 k2 k3
  clear r1 h1 h2 h3 h4 F1 F2 F3 F4
  go_enter Tryz.func14, Tryz.ntmps14
  go_wp2_with fail
  rw [← HW.out, ← HP.out, ← HR.out]
  have y0 := HX0.out
  have y1 := HX1.out
  rw [← HP.out] at hb
  refine bodyPost_ret (v := .tuple #[.agg #[.slice none 0 0, .slice none 0 0], .int .i64 8]) (by simp [results, Tryz.results14, go_sem, y0, y1]) rfl ?_
  refine ⟨_, ret_two' HEE.out.1.symm, ?_, hb⟩
  rw [HEE.out.2.1, HEE.out.2.2]; exact RepoOwn.none _ _
end Go.Proofs.YtcgpgflnihjpiagGreat
