/- For every repo and every name, the law RepoTells returns true and leaves its arguments as they were: Check, Head and Log of the landed repo package answer what the reference answers. No condition. -/
import Derived.Test.YtcgpgflnihjpiaeRBegun
import Derived.Test.YtcgpgflnihjpiaeRLog
import Derived.Test.YtcgpgflnihjpiaeQuiet
import Derived.Test.YtcgpgflnihjpiaeOpenR
namespace Go.Proofs.Ytcgpgflnihjpiae
open Go.ChangeShapes Go.WideShapes Go.ChangeAt Go.RowKit

set_option maxRecDepth 100000 in
set_option maxHeartbeats 8000000 in
theorem repoTells_walk (a : Option Addr) (n cap : Nat) (C : List M.Com) (a2 : Option Addr) (n2 cap2 : Nat) (H : List M.Hd) (s : ByteArray) (w : World) (hC : Cm w a n C) (hn : n ≤ 9223372036854775807) (hH : Hs w a2 n2 H) (hn2 : n2 ≤ 9223372036854775807) :
    Calls Try.prog 5 #[.agg #[.slice a n cap, .slice a2 n2 cap2], .string s] w fun e w' => e = .returned (.bool true) ∧ Below w.heap.size w w' := by
  obtain ⟨p, hp⟩ : ∃ p, p = w.heap.size := ⟨_, rfl⟩
  have I1 := InBox.new w a n cap C a2 n2 cap2 H hC hH
  obtain ⟨W, hW⟩ : ∃ W, W = w.alloc (.cells #[.slice a n cap, .slice a2 n2 cap2] 40) := ⟨_, rfl⟩
  have hb : Below w.heap.size w W := by rw [hW]; exact (Below.refl _ _).alloc (Nat.le_refl _) _
  rw [← hW, ← hp] at I1
  have q0 := I1.c0
  have q1 := I1.c1
  have HI : Aside (InBox W p a n cap C a2 n2 cap2 H) := I1
  obtain ⟨c, hc⟩ : ∃ c, c = M.hchk C H s := ⟨_, rfl⟩
  obtain ⟨x, hx⟩ : ∃ x, x = M.hat C H s := ⟨_, rfl⟩
  obtain ⟨z, hz⟩ : ∃ z, z = M.rchk C H := ⟨_, rfl⟩
  obtain ⟨L, hL⟩ : ∃ L, L = M.logL C H s := ⟨_, rfl⟩
  have F1 : Hid (∀ V, Below W.heap.size W V → Calls Try.prog 14 #[.agg #[.slice a n cap, .slice a2 n2 cap2], .string s] V fun e w' => e = .returned (.tuple #[.int .i64 x, .int .i64 c]) ∧ Below V.heap.size V w') := fun V hV => by rw [hc, hx]; exact head_any a n cap C a2 n2 cap2 H s V (HI.out.below hV).cm hn (HI.out.below hV).hs hn2
  have F2 : Hid (∀ V, Below W.heap.size W V → Calls Try.prog 15 #[.agg #[.slice a n cap, .slice a2 n2 cap2], .string s] V fun e w' => ∃ v, e = .returned (.tuple #[v, .int .i64 c]) ∧ OwnI w' V.heap.size v L ∧ Below V.heap.size V w') := fun V hV => by rw [hc, hL]; exact log_any a n cap C a2 n2 cap2 H s V (HI.out.below hV).cm hn (HI.out.below hV).hs hn2
  have F3 : Hid (∀ V, Below W.heap.size W V → Calls Try.prog 16 #[.agg #[.slice a n cap, .slice a2 n2 cap2], .string s] V fun e w' => e = .returned (.tuple #[.int .i64 x, .int .i64 c]) ∧ Below V.heap.size V w') := fun V hV => by rw [hc, hx]; exact headOf_any a n cap C a2 n2 cap2 H s V (HI.out.below hV).cm hn (HI.out.below hV).hs hn2
  have F4 : Hid (∀ V, Below W.heap.size W V → Calls Try.prog 17 #[.agg #[.slice a n cap, .slice a2 n2 cap2], .string s] V fun e w' => ∃ v, e = .returned (.tuple #[v, .int .i64 c]) ∧ OwnI w' V.heap.size v L ∧ Below V.heap.size V w') := fun V hV => by rw [hc, hL]; exact logOf_any a n cap C a2 n2 cap2 H s V (HI.out.below hV).cm hn (HI.out.below hV).hs hn2
  have F5 : Hid (∀ V, Below W.heap.size W V → Calls Try.prog 19 #[.agg #[.slice a n cap, .slice a2 n2 cap2]] V fun e w' => e = .returned (.int .i64 z) ∧ Below V.heap.size V w') := fun V hV => by rw [hz]; exact rcheck_any a n cap C a2 n2 cap2 H V (HI.out.below hV).cm hn (HI.out.below hV).hs hn2
  have F6 : Hid (∀ V, Below W.heap.size W V → Calls Try.prog 20 #[.agg #[.slice a n cap, .slice a2 n2 cap2]] V fun e w' => e = .returned (.int .i64 z) ∧ Below V.heap.size V w') := fun V hV => by rw [hz]; exact rerror_any a n cap C a2 n2 cap2 H V (HI.out.below hV).cm hn (HI.out.below hV).hs hn2
  have hLl : L.length ≤ 1000000 := by
    rw [hL]
    unfold M.logL
    split
    · simp
    · rename_i hne
      have h1 := M.fallF_len (M.above C (M.hat C H s).toNat) C.length
      have h2 := (M.dchk_zero (M.rchk_zero (M.hchk_zero (by simpa using hne)).1).1).1
      omega
  have HW : Hid (W = w.alloc (.cells #[.slice a n cap, .slice a2 n2 cap2] 40)) := hW
  have HP : Aside (p = w.heap.size) := hp
  clear hW hp I1 hC hH hc hx hz hL
  go_enter Try.func5, Try.ntmps5
  go_wp2_with fail
  rw [← HW.out, ← HP.out]
  go_wp2_with fail
  refine (F1.out _ (Below.refl _ _)).mono ?_
  rintro e w1 ⟨rfl, b1⟩
  have J1 := HI.out.below b1
  have d0 := J1.c0
  have d1 := J1.c1
  clear q0 q1 J1
  go_wp2_with fail
  refine (F2.out _ b1).mono ?_
  rintro e w2 ⟨lv, rfl, ol, b2⟩
  obtain ⟨la, lc, rfl, rl, _⟩ := ol.ri
  obtain ⟨ln, hln⟩ : ∃ ln, ln = L.length := ⟨_, rfl⟩
  rw [← hln] at rl ⊢
  have HR2 : Hid (Ri w2 la ln L) := rl
  have b2' := dbelow2 b1 b2
  have J2 := HI.out.below b2'
  have e0 := J2.c0
  have e1 := J2.c1
  clear d0 d1 J2 ol b1 b2 rl
  go_wp2_with fail
  refine (F3.out _ b2').mono ?_
  rintro e w3 ⟨rfl, b3⟩
  have b3' := dbelow2 b2' b3
  have J3 := HI.out.below b3'
  have g0 := J3.c0
  have g1 := J3.c1
  have HR3 : Hid (Ri w3 la ln L) := HR2.out.below b3 (Nat.le_refl _)
  clear e0 e1 J3 b2' b3 HR2
  go_wp2_with fail
  refine (F4.out _ b3').mono ?_
  rintro e w4 ⟨lv2, rfl, ol2, b4⟩
  obtain ⟨la2, lc2, rfl, rl2, _⟩ := ol2.ri
  rw [← hln] at rl2 ⊢
  have b4' := dbelow2 b3' b4
  have HR4 : Hid (Ri w4 la ln L) := HR3.out.below b4 (Nat.le_refl _)
  have HR5 : Hid (Ri w4 la2 ln L) := rl2
  have HBx : Hid (∀ V, Later w4 V → InBox V p a n cap C a2 n2 cap2 H) := fun V hV => HI.out.below (dbelow2 b4' hV.out)
  have HK1 : Hid (∀ V, Later w4 V → Calls Try.prog 19 #[.agg #[.slice a n cap, .slice a2 n2 cap2]] V fun e w' => e = .returned (.int .i64 z) ∧ Later w4 w') := fun V hV => (F5.out V (dbelow2 b4' hV.out)).mono fun e w' h => ⟨h.1, dbelow2 hV.out h.2⟩
  have HK2 : Hid (∀ V, Later w4 V → Calls Try.prog 20 #[.agg #[.slice a n cap, .slice a2 n2 cap2]] V fun e w' => e = .returned (.int .i64 z) ∧ Later w4 w') := fun V hV => (F6.out V (dbelow2 b4' hV.out)).mono fun e w' h => ⟨h.1, dbelow2 hV.out h.2⟩
  have HK3 : Hid (∀ V, Later w4 V → Calls Try.prog 10 #[.slice la ln lc, .slice la2 ln lc2] V fun e w' => e = .returned (.bool true) ∧ Later w4 w') := fun V hV => (isame_yes la la2 ln lc lc2 L V (HR4.out.below hV.out (Nat.le_refl _)) (HR5.out.below hV.out (Nat.le_refl _)) (by omega)).mono fun e w' ⟨h1, m, h2⟩ => ⟨h1, by rw [h2]; exact below_drewN hV.out m⟩
  clear g0 g1 ol2 b3' b4 rl2 HR3 hln hLl
  go_wp2_with fail
  refine wp_region_later (W0 := w4) (by kernel_rfl) (by kernel_rfl) (Below.refl _ _) ?_
  go_big_quiet_want
  refine quiet_enter 18 #[] (.bool true) (fun W => by go_simp) (fun W hW => (rbegun_any W).mono fun e w' h => ⟨h.1, hW.out.trans (h.2.mono hW.out.size)⟩) ?_
  go_simp
  go_big_quiet_on
  go_big_quiet_want
  go_big_quiet_op
  go_big_quiet_on
  go_big_quiet_want
  refine quiet_val (.agg #[.slice a n cap, .slice a2 n2 cap2]) (fun W hW => by have h0 := (HBx.out W hW).c0; have h1 := (HBx.out W hW).c1; go_simp) ?_
  go_simp
  go_big_quiet_on
  go_big_quiet_want
  refine quiet_enter 19 #[.agg #[.slice a n cap, .slice a2 n2 cap2]] (.int .i64 z) (fun W => by go_simp) (fun W hW => HK1.out W hW) ?_
  go_simp
  go_big_quiet_on
  go_big_quiet_want
  refine quiet_val (.agg #[.slice a n cap, .slice a2 n2 cap2]) (fun W hW => by have h0 := (HBx.out W hW).c0; have h1 := (HBx.out W hW).c1; go_simp) ?_
  go_simp
  go_big_quiet_on
  go_big_quiet_want
  refine quiet_enter 20 #[.agg #[.slice a n cap, .slice a2 n2 cap2]] (.int .i64 z) (fun W => by go_simp) (fun W hW => HK2.out W hW) ?_
  go_simp
  go_big_quiet_on
  go_big_quiet_want
  refine quiet_val (.bool true) (fun W hW => by go_simp) ?_
  go_simp
  go_big_quiet_on
  go_big_quiet_want
  refine quiet_val (.bool true) (fun W hW => by go_simp) ?_
  go_simp
  go_big_quiet_on
  go_big_quiet_want
  go_big_quiet_op
  go_big_quiet_on
  go_big_quiet_want
  go_big_quiet_op
  go_big_quiet_on
  go_big_quiet_want
  go_big_quiet_op
  go_big_quiet_on
  go_big_quiet_want
  refine quiet_val (.bool true) (fun W hW => by go_simp) ?_
  go_simp
  go_big_quiet_on
  go_big_quiet_want
  refine quiet_val (.bool true) (fun W hW => by go_simp) ?_
  go_simp
  go_big_quiet_on
  go_big_quiet_want
  go_big_quiet_op
  go_big_quiet_on
  go_big_quiet_want
  go_big_quiet_op
  go_big_quiet_on
  go_big_quiet_want
  go_big_quiet_op
  go_big_quiet_on
  go_big_quiet_want
  refine quiet_val (.bool true) (fun W hW => by go_simp) ?_
  go_simp
  go_big_quiet_on
  go_big_quiet_want
  refine quiet_val (.bool true) (fun W hW => by go_simp) ?_
  go_simp
  go_big_quiet_on
  go_big_quiet_want
  go_big_quiet_op
  go_big_quiet_on
  go_big_quiet_want
  go_big_quiet_op
  go_big_quiet_on
  go_big_quiet_want
  go_big_quiet_op
  go_big_quiet_on
  go_big_quiet_want
  refine quiet_enter 10 #[.slice la ln lc, .slice la2 ln lc2] (.bool true) (fun W => by go_simp) (fun W hW => HK3.out W hW) ?_
  go_simp
  go_big_quiet_on
  go_big_quiet_want
  refine quiet_val (.bool true) (fun W hW => by go_simp) ?_
  go_simp
  go_big_quiet_on
  go_big_quiet_want
  go_big_quiet_op
  go_big_quiet_on
  go_big_quiet_want
  go_big_quiet_op
  go_big_quiet_on
  go_big_quiet_want
  go_big_quiet_op
  go_big_quiet_on
  go_big_quiet_want
  refine quiet_val (.bool true) (fun W hW => by go_simp) ?_
  go_simp
  go_big_quiet_on
  go_big_quiet_want
  refine quiet_val (.bool true) (fun W hW => by go_simp) ?_
  go_simp
  go_big_quiet_on
  go_big_quiet_want
  go_big_quiet_op
  go_big_quiet_on
  refine wpQuiet_nil ?_
  intro w5 hL
  have q5 := hL.out
  go_wp2
  go_ret
  exact ⟨rfl, hb.trans ((dbelow2 b4' q5).mono hb.size)⟩

set_option maxRecDepth 100000 in
theorem repoTells_lifted (os : Os) (started : os.Started) (H : Type) (enc : TypeId × Value → H) :
    ReturnsInHanded {} Try.checked os 5 .any (Rows.repoTellsSpec.pre6 enc Try.prog Try.f5 Rows.repoTellsRow.domain false) (Rows.repoTellsSpec.post enc Try.prog Try.f5 false true false false) := by
  refine returnsInHanded_of_change (C := Try.checked) ownTry started (by kernel_rfl) Try.func5
    (ChangeSpec.witness6 (enc := enc) (C := Try.checked) false ⟨#[], #[.agg #[.slice none 0 0, .slice none 0 0], .string ⟨#[]⟩], []⟩ 8 (by kernel_rfl) (by kernel_rfl) (by kernel_rfl) (by kernel_rfl)) ?_
  intro W base args ds gs before hval0 hW hcnd _
  have hval : ∀ (j : Nat) t v, Try.f5.params[j]? = some t → args[j]? = some v → Value.okWide Try.prog W .any base t v := hval0
  have hW' := hW
  obtain ⟨p, q, hA0, hV, rfl, hfz, hnd⟩ := hW
  have hA : DataW.TrodAll enc Try.prog W 0 (fun _ => true) true Try.f5.params.toList args.toList ds p := hA0
  rw [Try.params5] at hA hval
  obtain ⟨v0, vs0, d0, ds0, p0, q0, hargs, rfl, rfl, h0, r0⟩ := trodAll_cons hA
  obtain ⟨v1, vs1, d1, ds1, p1, q1, rfl, rfl, rfl, h1, r1⟩ := trodAll_cons r0
  obtain ⟨rfl, rfl, rfl⟩ := trodAll_nil r1
  obtain rfl : args = #[v0, v1] := by cases args; simp_all
  obtain ⟨rfl, rfl⟩ := trodVars_none hV
  have k0 := h0
  have lt0 : ∀ x ∈ p0, x.block < W.heap.size := by obtain ⟨m, hm⟩ := k0; exact DataW.trod_lt m _ _ _ hm
  obtain ⟨a0, n0, cap0, b0, m0, bap0, C0, L0, rfl, hc0, hcn0, hl0, hln0⟩ := open_repo (hval 0 40 v0 rfl rfl) h0
  obtain ⟨s1, rfl, rfl, rfl, hs1⟩ := Go.ChangeMaps.open_string Try.underlying9 (hval 1 9 v1 rfl rfl) h1
  clear hA0 hval0
  refine (repoTells_walk a0 n0 cap0 C0 b0 m0 bap0 L0 s1 W hc0 hcn0 hl0 hln0).mono fun e W' ⟨he, bel⟩ => ?_
  subst he
  exact ⟨_, rfl, _, _, _, [], _, [], hW', trodAll_mk1 (shut_bool Try.underlying4 _), (trodAll_cons_mk (Below.trod laidTry (by kernel_rfl) (of_decide_eq_true (by kernel_rfl)) k0 bel lt0) (trodAll_cons_mk (Go.ChangeMaps.shut_string Try.underlying9 hs1) trodAll_mk0)), rfl, bel.frame _, fun h => by cases h⟩

theorem repoTells_holds : Rows.RepoTellsSaid :=
  OpenClaim.holds_of_wide 5 Try.f5 rfl rfl rfl rfl rfl rfl rfl ⟨rfl, rfl, rfl, rfl, rfl⟩ rfl rfl rfl rfl rfl (by kernel_rfl) Try.func5 (by kernel_rfl)
    (of_decide_eq_true (by kernel_rfl)) (by unfold Func.isWrapper; first | (rw [if_pos (by decide +kernel)]; kernel_rfl) | (rw [if_neg (by decide +kernel)]; exact ⟨rfl, rfl⟩))
    (fun os started H enc _ => repoTells_lifted os started H enc)
#print axioms repoTells_holds
end Go.Proofs.Ytcgpgflnihjpiae
