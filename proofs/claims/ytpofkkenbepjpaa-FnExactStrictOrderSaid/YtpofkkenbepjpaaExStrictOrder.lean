/-
  FnExactStrictOrder: for every argument the exact law of StrictOrder returns true and writes nothing that was there. No condition.
-/
import Derived.Test.YtpofkkenbepjpaaImp12f
import Derived.Test.YtpofkkenbepjpaaJobX
import Derived.Test.YtpofkkenbepjpaaJobLaws
import Derived.Test.YtpofkkenbepjpaaShut
namespace Go.Proofs.Ytpofkkenbepjpaa
open Go.RowKit Go.ChangeShapes Go.WideShapes Go.ChangeAt

set_option maxRecDepth 100000 in
set_option maxHeartbeats 8000000 in
theorem walk_FnExactStrictOrder {A0 : Option Addr} {n0 c0 : Nat} {zs0 : List Int} {A1 : Option Addr} {n1 c1 : Nat} {zs1 : List Duo} {w : World} (h0 : Has w A0 n0 (ints .i64 zs0)) (_ : ∀ z ∈ zs0, (Lit.int .i64 z).wf = true) (hc0 : n0 ≤ c0 ∧ c0 ≤ maxLen) (h1 : HasD w A1 n1 zs1) (_ : I64D zs1) (hc1 : n1 ≤ c1 ∧ c1 ≤ maxLen) :
    Calls Try.prog 12 #[.slice A0 n0 c0, .slice A1 n1 c1] w fun e w' => e = .returned (.bool true) ∧ Below w.heap.size w w' := by
  have hm0 : n0 ≤ 9223372036854775807 := Nat.le_trans hc0.1 (Nat.le_trans hc0.2 (by unfold maxLen; omega))
  have hm1 : n1 ≤ 9223372036854775807 := Nat.le_trans hc1.1 (Nat.le_trans hc1.2 (by unfold maxLen; omega))
  obtain ⟨R, hR⟩ : ∃ R, strictL zs0 zs1 = R := ⟨_, rfl⟩
  have hRl : R.length ≤ 1000 := by rw [← hR]; have := strict_few zs0 zs1; omega
  clear hc0 hc1
  by_cases hn0 : n0 ≤ 1048576
  rotate_left
  · go_enter Try.func12, Try.ntmps12
    go_wp2
    go_ret
    exact ⟨rfl, Below.refl _ _⟩
  have SZ1 := Lib.hid (szJobS_any (A := A1) (n := n1) (c := c1) (w := w) (L := 1048576) rfl hm1)
  by_cases hn1 : n1 ≤ 1048576
  rotate_left
  · rw [if_neg hn1] at SZ1
    go_enter Try.func12, Try.ntmps12
    go_wp2_with (fail)
    refine SZ1.out.mono ?_
    rintro e w' ⟨rfl, rfl⟩
    go_wp2
    go_ret
    exact ⟨rfl, Below.refl _ _⟩
  rw [if_pos hn1] at SZ1
  have zB1 : decide ((1048576 : Int) - (n1 : Int) < 0) = false := by simp; omega
  go_enter Try.func12, Try.ntmps12
  go_wp2_with (fail)
  refine SZ1.out.mono ?_
  rintro e w' ⟨rfl, rfl⟩
  go_wp2_with (fail)
  refine (toIntS_any (h0.bel (Below.refl _ _)) (by omega)).mono ?_
  rintro e w1 ⟨gp0, rfl, O1, B1⟩
  have S1 : w.heap.size ≤ w1.heap.size := B1.size
  have C1 := B1
  obtain ⟨Ap0, hAp0⟩ : ∃ A, A = some (⟨gp0, 0, none⟩ : Addr) := ⟨_, rfl⟩
  have bp0 : ∀ a, Ap0 = some a → w.heap.size ≤ a.block ∧ a.block < w1.heap.size := fun a ha => by rw [hAp0] at ha; cases ha; exact O1.block
  go_wp2_with (fail)
  refine (toJobS_any (h1.bel C1) (by omega)).mono ?_
  rintro e w2 ⟨Ap1, ccp1, rfl, O2, B2⟩
  have S2 : w1.heap.size ≤ w2.heap.size := B2.size
  have C2 := bel_trans C1 B2
  have p0_2 := O1.bel B2
  have bp1 : ∀ a, Ap1 = some a → w1.heap.size ≤ a.block ∧ a.block < w2.heap.size := fun a ha => by subst ha; exact World.ownsRow.lt O2 a.block rfl
  go_wp2_with (fail)
  refine (specStrictOrder_r p0_2.has O2.has (by omega) (by omega) hR).mono ?_
  rintro e w3 ⟨AW, nW, cW, rfl, O3, B3⟩
  have S3 : w2.heap.size ≤ w3.heap.size := B3.size
  have C3 := bel_trans C2 B3
  have p0_3 := p0_2.bel B3
  have p1_3 := O2.bel B3
  have bW : ∀ a, AW = some a → w2.heap.size ≤ a.block ∧ a.block < w3.heap.size := fun a ha => by subst ha; exact World.ownsRow.lt O3 a.block rfl
  have hnW : nW ≤ 1000 := by have q1 := O3.has.len; omega
  go_wp2_with (fail)
  refine (toIntS_any (h0.bel C3) (by omega)).mono ?_
  rintro e w4 ⟨gx0, rfl, O4, B4⟩
  have S4 : w3.heap.size ≤ w4.heap.size := B4.size
  have C4 := bel_trans C3 B4
  have W_4 := O3.bel B4
  obtain ⟨Ax0, hAx0⟩ : ∃ A, A = some (⟨gx0, 0, none⟩ : Addr) := ⟨_, rfl⟩
  have bx0 : ∀ a, Ax0 = some a → w3.heap.size ≤ a.block ∧ a.block < w4.heap.size := fun a ha => by rw [hAx0] at ha; cases ha; exact O4.block
  go_wp2_with (fail)
  refine (toJobS_any (h1.bel C4) (by omega)).mono ?_
  rintro e w5 ⟨Ax1, ccx1, rfl, O5, B5⟩
  have S5 : w4.heap.size ≤ w5.heap.size := B5.size
  have C5 := bel_trans C4 B5
  have W_5 := W_4.bel B5
  have x0_5 := O4.bel B5
  have bx1 : ∀ a, Ax1 = some a → w4.heap.size ≤ a.block ∧ a.block < w5.heap.size := fun a ha => by subst ha; exact World.ownsRow.lt O5 a.block rfl
  go_wp2_with (fail)
  refine (implStrictOrder_r x0_5.has O5.has (by omega) (by omega) hR).mono ?_
  rintro e w6 ⟨AG, nG, cG, rfl, O6, B6⟩
  have S6 : w5.heap.size ≤ w6.heap.size := B6.size
  have C6 := bel_trans C5 B6
  have W_6 := W_5.bel B6
  have x0_6 := x0_5.bel B6
  have x1_6 := O5.bel B6
  have bG : ∀ a, AG = some a → w5.heap.size ≤ a.block ∧ a.block < w6.heap.size := fun a ha => by subst ha; exact World.ownsRow.lt O6 a.block rfl
  have hnG : nG ≤ 1000 := by have q1 := O6.has.len; omega
  go_wp2_with (fail)
  refine (eqIntS_b (c := cG) (c' := cW) O6.has W_6.has (by omega)).mono ?_
  rintro e w7 ⟨rfl, B7⟩
  have S7 : w6.heap.size ≤ w7.heap.size := B7.size
  have C7 := bel_trans C6 B7
  have W_7 := W_6.bel B7
  have x0_7 := x0_6.bel B7
  have x1_7 := x1_6.bel B7
  have G_7 := O6.bel B7
  go_wp2_with (fail)
  refine (toIntS_any (h0.bel C7) (by omega)).mono ?_
  rintro e w8 ⟨gy0, rfl, O8, B8⟩
  have S8 : w7.heap.size ≤ w8.heap.size := B8.size
  have C8 := bel_trans C7 B8
  have W_8 := W_7.bel B8
  have x0_8 := x0_7.bel B8
  have x1_8 := x1_7.bel B8
  have G_8 := G_7.bel B8
  obtain ⟨Ay0, hAy0⟩ : ∃ A, A = some (⟨gy0, 0, none⟩ : Addr) := ⟨_, rfl⟩
  have by0 : ∀ a, Ay0 = some a → w7.heap.size ≤ a.block ∧ a.block < w8.heap.size := fun a ha => by rw [hAy0] at ha; cases ha; exact O8.block
  go_wp2_with (fail)
  refine (eqIntS_b x0_8.has O8.has (by omega)).mono ?_
  rintro e w9 ⟨rfl, B9⟩
  have S9 : w8.heap.size ≤ w9.heap.size := B9.size
  have C9 := bel_trans C8 B9
  have W_9 := W_8.bel B9
  have x0_9 := x0_8.bel B9
  have x1_9 := x1_8.bel B9
  have G_9 := G_8.bel B9
  have y0_9 := O8.bel B9
  go_wp2_with (fail)
  refine (toJobS_any (h1.bel C9) (by omega)).mono ?_
  rintro e w10 ⟨Ay1, ccy1, rfl, O10, B10⟩
  have S10 : w9.heap.size ≤ w10.heap.size := B10.size
  have C10 := bel_trans C9 B10
  have W_10 := W_9.bel B10
  have x0_10 := x0_9.bel B10
  have x1_10 := x1_9.bel B10
  have G_10 := G_9.bel B10
  have by1 : ∀ a, Ay1 = some a → w9.heap.size ≤ a.block ∧ a.block < w10.heap.size := fun a ha => by subst ha; exact World.ownsRow.lt O10 a.block rfl
  go_wp2_with (fail)
  refine (eqJobS_same x1_10.has O10.has (by omega)).mono ?_
  rintro e w11 ⟨rfl, B11⟩
  have S11 : w10.heap.size ≤ w11.heap.size := B11.size
  have C11 := bel_trans C10 B11
  have W_11 := W_10.bel B11
  have x0_11 := x0_10.bel B11
  have x1_11 := x1_10.bel B11
  have G_11 := G_10.bel B11
  have y1_11 := O10.bel B11
  go_wp2_with (fail)
  refine (markIntS_any (K := 1) x0_11 (by omega) (by omega)).mono ?_
  rintro e w12 ⟨rfl, _, M12⟩
  have S12 : w11.heap.size ≤ w12.heap.size := M12.size
  have N12 : w11.grownBy w12 (Ax0.map (·.block)) := by rw [hAx0]; exact M12
  have C12 := bel_grown C11 N12 (fun ad ha => by have := bx0 ad ha; omega)
  have W_12 := W_11.keep N12 (fun a ha b hb => by have h1 := bW a ha; have h2 := bx0 b hb; omega)
  have x1_12 := x1_11.keep N12 (fun a ha b hb => by have h1 := bx1 a ha; have h2 := bx0 b hb; omega)
  have G_12 := G_11.keep N12 (fun a ha b hb => by have h1 := bG a ha; have h2 := bx0 b hb; omega)
  go_wp2_with (fail)
  refine (markJobS_any (K := 1 + n0) x1_12 (by omega) (by omega)).mono ?_
  rintro e w13 ⟨rfl, M13⟩
  have S13 : w12.heap.size ≤ w13.heap.size := M13.size
  have N13 : w12.grownBy w13 (Ax1.map (·.block)) := M13
  have C13 := bel_grown C12 N13 (fun ad ha => by have := bx1 ad ha; omega)
  have W_13 := W_12.keep N13 (fun a ha b hb => by have h1 := bW a ha; have h2 := bx1 b hb; omega)
  have G_13 := G_12.keep N13 (fun a ha b hb => by have h1 := bG a ha; have h2 := bx1 b hb; omega)
  have kB : decide (((1 + n0 + 2 * n1 : Nat) : Int) < 0) = false := decide_eq_false (by omega)
  have kC : decide (1 + (n0 : Int) + 2 * (n1 : Int) < (0 : Int)) = false := decide_eq_false (by omega)
  go_wp2_with (fail)
  refine (eqIntS_b (c := cG) (c' := cW) G_13.has W_13.has (by omega)).mono ?_
  rintro e w14 ⟨rfl, B14⟩
  have S14 : w13.heap.size ≤ w14.heap.size := B14.size
  have C14 := bel_trans C13 B14
  have W_14 := W_13.bel B14
  have G_14 := G_13.bel B14
  go_wp2_with (fail)
  refine (markIntS_any (K := 1) G_14 (by omega) (by omega)).mono ?_
  rintro e w15 ⟨rfl, Gm, M15⟩
  have S15 : w14.heap.size ≤ w15.heap.size := M15.size
  have N15 : w14.grownBy w15 (AG.map (·.block)) := M15
  have C15 := bel_grown C14 N15 (fun ad ha => by have := bG ad ha; omega)
  have W_15 := W_14.keep N15 (fun a ha b hb => by have h1 := bW a ha; have h2 := bG b hb; omega)
  go_wp2_with (fail)
  refine (heldIntS_any (c := cG) (K := 1) Gm.has (by omega) (by omega)).mono ?_
  rintro e w' ⟨rfl, rfl⟩
  go_wp2_with (fail)
  refine (toIntS_any (h0.bel C15) (by omega)).mono ?_
  rintro e w16 ⟨gz0, rfl, O16, B16⟩
  have S16 : w15.heap.size ≤ w16.heap.size := B16.size
  have C16 := bel_trans C15 B16
  have W_16 := W_15.bel B16
  have G_16 := Gm.bel B16
  obtain ⟨Az0, hAz0⟩ : ∃ A, A = some (⟨gz0, 0, none⟩ : Addr) := ⟨_, rfl⟩
  have bz0 : ∀ a, Az0 = some a → w15.heap.size ≤ a.block ∧ a.block < w16.heap.size := fun a ha => by rw [hAz0] at ha; cases ha; exact O16.block
  go_wp2_with (fail)
  refine (toJobS_any (h1.bel C16) (by omega)).mono ?_
  rintro e w17 ⟨Az1, ccz1, rfl, O17, B17⟩
  have S17 : w16.heap.size ≤ w17.heap.size := B17.size
  have C17 := bel_trans C16 B17
  have W_17 := W_16.bel B17
  have G_17 := G_16.bel B17
  have z0_17 := O16.bel B17
  have bz1 : ∀ a, Az1 = some a → w16.heap.size ≤ a.block ∧ a.block < w17.heap.size := fun a ha => by subst ha; exact World.ownsRow.lt O17 a.block rfl
  go_wp2_with (fail)
  refine (implStrictOrder_r z0_17.has O17.has (by omega) (by omega) hR).mono ?_
  rintro e w18 ⟨AH, nH, cH, rfl, O18, B18⟩
  have S18 : w17.heap.size ≤ w18.heap.size := B18.size
  have C18 := bel_trans C17 B18
  have W_18 := W_17.bel B18
  have G_18 := G_17.bel B18
  have z0_18 := z0_17.bel B18
  have z1_18 := O17.bel B18
  have bH : ∀ a, AH = some a → w17.heap.size ≤ a.block ∧ a.block < w18.heap.size := fun a ha => by subst ha; exact World.ownsRow.lt O18 a.block rfl
  have hnH : nH ≤ 1000 := by have q1 := O18.has.len; omega
  go_wp2_with (fail)
  refine (eqIntS_b (c := cH) (c' := cW) O18.has W_18.has (by omega)).mono ?_
  rintro e w19 ⟨rfl, B19⟩
  have S19 : w18.heap.size ≤ w19.heap.size := B19.size
  have C19 := bel_trans C18 B19
  have W_19 := W_18.bel B19
  have G_19 := G_18.bel B19
  have H_19 := O18.bel B19
  go_wp2_with (fail)
  refine (heldIntS_any (c := cG) (K := 1) G_19.has (by omega) (by omega)).mono ?_
  rintro e w' ⟨rfl, rfl⟩
  go_wp2
  go_ret
  exact ⟨rfl, C19⟩
set_option maxRecDepth 100000 in
theorem lifted_FnExactStrictOrder (os : Os) (started : os.Started) (H : Type) (enc : TypeId × Value → H) :
    ReturnsInHanded {} Try.checked os 12 .any (Rows.fnExactStrictOrderSpec.pre6 enc Try.prog Try.f12 Rows.fnExactStrictOrderRow.domain false) (Rows.fnExactStrictOrderSpec.post enc Try.prog Try.f12 false true false false) := by
  refine returnsInHanded_of_change (C := Try.checked) (by kernel_rfl) started (by kernel_rfl) Try.func12
    (ChangeSpec.witness6 (enc := enc) (C := Try.checked) false ⟨#[], #[.slice none 0 0, .slice none 0 0], []⟩ 8 (by kernel_rfl) (by kernel_rfl) (by kernel_rfl) (by kernel_rfl)) ?_
  intro W base args ds gs before hval0 hW hcnd _
  have hval : ∀ (j : Nat) t v, Try.f12.params[j]? = some t → args[j]? = some v → Value.okWide Try.prog W .any base t v := hval0
  have hW' := hW
  obtain ⟨p, q, hA0, hV, rfl, hfz, hnd⟩ := hW
  have hA : DataW.TrodAll enc Try.prog W 0 (fun _ => true) true Try.f12.params.toList args.toList ds p := hA0
  rw [Try.params12] at hA hval
  obtain ⟨v0, vs0, d0, ds0, p0, q0, hargs, rfl, rfl, h0, r0⟩ := trodAll_cons hA
  obtain ⟨v1, vs1, d1, ds1, p1, q1, rfl, rfl, rfl, h1, r1⟩ := trodAll_cons r0
  obtain ⟨rfl, rfl, rfl⟩ := trodAll_nil r1
  obtain rfl : args = #[v0, v1] := by cases args; simp_all
  obtain ⟨rfl, rfl⟩ := trodVars_none hV
  obtain ⟨a0, len0, cap0, rfl⟩ := okWide_slice Try.underlying23 (hval 0 23 v0 rfl rfl)
  have k0 := h0
  have lt0 : ∀ x ∈ p0, x.block < W.heap.size := by obtain ⟨m, hm⟩ := k0; exact DataW.trod_lt m _ _ _ hm
  obtain ⟨z0, H0, U0, M0⟩ := has_of_trod (k := .i64) Try.underlying23 Try.underlying3 (by kernel_rfl) h0
  obtain ⟨a1, len1, cap1, rfl⟩ := okWide_slice Try.underlying43 (hval 1 43 v1 rfl rfl)
  have k1 := h1
  have lt1 : ∀ x ∈ p1, x.block < W.heap.size := by obtain ⟨m, hm⟩ := k1; exact DataW.trod_lt m _ _ _ hm
  obtain ⟨z1, H1, U1, M1⟩ := hasD_of_trod Try.underlying43 Try.underlying79 (by kernel_rfl) (by kernel_rfl) Try.underlying3 Try.underlying3 h1
  clear hA0 hval0
  refine (walk_FnExactStrictOrder H0 U0 M0 H1 U1 M1).mono fun e W' ⟨he, bel⟩ => ?_
  subst he
  exact ⟨_, rfl, _, _, _, [], _, [], hW', trodAll_mk1 (shut_bool Try.underlying4 _), (trodAll_cons_mk (Below.trod (by kernel_rfl) (by kernel_rfl) (of_decide_eq_true (by kernel_rfl)) k0 bel lt0) (trodAll_cons_mk (Below.trod (by kernel_rfl) (by kernel_rfl) (of_decide_eq_true (by kernel_rfl)) k1 bel lt1) trodAll_mk0)), rfl, bel.frame _, fun h => by cases h⟩

theorem fnExactStrictOrder_holds : Rows.FnExactStrictOrderSaid :=
  OpenClaim.holds_of_wide 12 Try.f12 rfl rfl rfl rfl rfl rfl rfl ⟨rfl, rfl, rfl, rfl, rfl⟩ rfl rfl rfl rfl rfl (by kernel_rfl) Try.func12
    (by unfold joinedFacts; with_reducible refine Bool.and_eq_true_iff.2 ⟨?_, (by as_aux_lemma => kernel_rfl)⟩; with_reducible refine Bool.and_eq_true_iff.2 ⟨?_, (by as_aux_lemma => kernel_rfl)⟩; with_reducible refine Bool.and_eq_true_iff.2 ⟨?_, (by as_aux_lemma => kernel_rfl)⟩; with_reducible refine Bool.and_eq_true_iff.2 ⟨?_, (by as_aux_lemma => kernel_rfl)⟩; with_reducible refine Bool.and_eq_true_iff.2 ⟨?_, (by with_unfolding_all exact shutMake)⟩; with_reducible refine Bool.and_eq_true_iff.2 ⟨?_, (by with_unfolding_all exact shutLifts)⟩; with_reducible refine Bool.and_eq_true_iff.2 ⟨?_, shutEnter⟩; (repeat (with_reducible refine Bool.and_eq_true_iff.2 ⟨?_, (by as_aux_lemma => kernel_rfl)⟩)); as_aux_lemma => kernel_rfl)
    (of_decide_eq_true (by kernel_rfl)) (by unfold Func.isWrapper; first | (rw [if_pos (by decide +kernel)]; kernel_rfl) | (rw [if_neg (by decide +kernel)]; exact ⟨rfl, rfl⟩))
    (fun os started H enc _ => lifted_FnExactStrictOrder os started H enc)
end Go.Proofs.Ytpofkkenbepjpaa
