/-
  FnExactSharesOf: for every argument the exact law of SharesOf returns true and writes nothing that was there. No condition.
-/
import Derived.Test.YtimddobedgopiaaFlowX
import Derived.Test.YtimddobedgopiaaShut
namespace Go.Proofs.Ytimddobedgopiaa
open Go.RowKit Go.ChangeShapes Go.WideShapes Go.ChangeAt

set_option maxHeartbeats 2000000 in
theorem walk_FnExactSharesOf {A0 : Option Addr} {n0 c0 : Nat} {zs0 : List Bool} {w : World} (h0 : Has w A0 n0 (bools zs0)) (_ : True) (_ : n0 ≤ c0 ∧ c0 ≤ maxLen) :
    Calls Try.prog 12 #[.slice A0 n0 c0] w fun e w' => e = .returned (.bool true) ∧ Below w.heap.size w w' := by
  by_cases hn0 : n0 ≤ 1048576
  rotate_left
  · go_enter Try.func12, Try.ntmps12
    go_wp2
    go_ret
    exact ⟨rfl, Below.refl _ _⟩
  have B0 : Below w.heap.size w w := Below.refl _ _
  go_enter Try.func12, Try.ntmps12
  go_wp2_with (fail)
  refine (toBoolS_any (h0.bel B0) (by omega)).mono ?_
  rintro e w1 ⟨gp0, rfl, O1, B1⟩
  have S1 : w.heap.size ≤ w1.heap.size := B1.size
  have C1 := bel_trans B0 B1
  go_wp2_with (fail)
  refine (specSharesOf_any O1.has (by omega)).mono ?_
  rintro e w2 ⟨AW, nW, cW, rfl, O2, B2⟩
  have S2 : w1.heap.size ≤ w2.heap.size := B2.size
  have C2 := bel_trans C1 B2
  have p0_2 := O1.bel B2
  have hnW : nW ≤ 8 := by have q1 := O2.has.len; have q2 := sharesI_le zs0; omega
  go_wp2_with (fail)
  refine (toBoolS_any (h0.bel C2) (by omega)).mono ?_
  rintro e w3 ⟨gx0, rfl, O3, B3⟩
  have S3 : w2.heap.size ≤ w3.heap.size := B3.size
  have C3 := bel_trans C2 B3
  have W_3 := O2.bel B3
  go_wp2_with (fail)
  refine (implSharesOf_any O3.has (by omega)).mono ?_
  rintro e w4 ⟨AG, nG, cG, rfl, O4, B4⟩
  have S4 : w3.heap.size ≤ w4.heap.size := B4.size
  have C4 := bel_trans C3 B4
  have W_4 := W_3.bel B4
  have x0_4 := O3.bel B4
  have hnG : nG ≤ 8 := by have q1 := O4.has.len; have q2 := sharesI_le zs0; omega
  go_wp2_with (fail)
  refine (eqIntS_b O4.has W_4.has (by omega)).mono ?_
  rintro e w5 ⟨rfl, B5⟩
  have S5 : w4.heap.size ≤ w5.heap.size := B5.size
  have C5 := bel_trans C4 B5
  have W_5 := W_4.bel B5
  have x0_5 := x0_4.bel B5
  have G_5 := O4.bel B5
  go_wp2_with (fail)
  refine (toBoolS_any (h0.bel C5) (by omega)).mono ?_
  rintro e w6 ⟨gy0, rfl, O6, B6⟩
  have S6 : w5.heap.size ≤ w6.heap.size := B6.size
  have C6 := bel_trans C5 B6
  have W_6 := W_5.bel B6
  have x0_6 := x0_5.bel B6
  have G_6 := G_5.bel B6
  go_wp2_with (fail)
  refine (eqBoolS_b x0_6.has O6.has (by omega)).mono ?_
  rintro e w7 ⟨rfl, B7⟩
  have S7 : w6.heap.size ≤ w7.heap.size := B7.size
  have C7 := bel_trans C6 B7
  have W_7 := W_6.bel B7
  have x0_7 := x0_6.bel B7
  have G_7 := G_6.bel B7
  have y0_7 := O6.bel B7
  go_wp2_with (fail)
  refine (markBoolS_any x0_7 (K := 1) (by omega) (by omega)).mono ?_
  rintro e w8 ⟨rfl, x0_8, M8⟩
  have S8 : w7.heap.size ≤ w8.heap.size := M8.size
  have C8 := bel_grown C7 M8 (O3.ge (by omega))
  have W_8 := W_7.earlier (z := w2) O2.lt (O3.ge (by omega)) M8
  have G_8 := G_7.later (fun ad hh => by have := O3.lt ad hh; omega) M8
  go_wp2_with (fail)
  refine (eqIntS_b G_8.has W_8.has (by omega)).mono ?_
  rintro e w9 ⟨rfl, B9⟩
  have S9 : w8.heap.size ≤ w9.heap.size := B9.size
  have C9 := bel_trans C8 B9
  have W_9 := W_8.bel B9
  have G_9 := G_8.bel B9
  go_wp2_with (fail)
  refine (markIntS_any G_9 (K := 1) (by omega) (by omega)).mono ?_
  rintro e w10 ⟨rfl, G_10, M10⟩
  have S10 : w9.heap.size ≤ w10.heap.size := M10.size
  have C10 := bel_grown C9 M10 (O4.ge (by omega))
  have W_10 := W_9.earlier (z := w2) O2.lt (O4.ge (by omega)) M10
  go_wp2_with (fail)
  refine (heldIntS_any G_10.has (by omega) (by omega)).mono ?_
  rintro e w11 ⟨rfl, rfl⟩
  go_wp2_with (fail)
  refine (toBoolS_any (h0.bel C10) (by omega)).mono ?_
  rintro e w11 ⟨gz0, rfl, O11, B11⟩
  have S11 : w10.heap.size ≤ w11.heap.size := B11.size
  have C11 := bel_trans C10 B11
  have W_11 := W_10.bel B11
  have G_11 := G_10.bel B11
  go_wp2_with (fail)
  refine (implSharesOf_any O11.has (by omega)).mono ?_
  rintro e w12 ⟨AH, nH, cH, rfl, O12, B12⟩
  have S12 : w11.heap.size ≤ w12.heap.size := B12.size
  have C12 := bel_trans C11 B12
  have W_12 := W_11.bel B12
  have G_12 := G_11.bel B12
  have z0_12 := O11.bel B12
  have hnH : nH ≤ 8 := by have q1 := O12.has.len; have q2 := sharesI_le zs0; omega
  go_wp2_with (fail)
  refine (eqIntS_b O12.has W_12.has (by omega)).mono ?_
  rintro e w13 ⟨rfl, B13⟩
  have S13 : w12.heap.size ≤ w13.heap.size := B13.size
  have C13 := bel_trans C12 B13
  have W_13 := W_12.bel B13
  have G_13 := G_12.bel B13
  have H_13 := O12.bel B13
  go_wp2_with (fail)
  refine (heldIntS_any G_13.has (by omega) (by omega)).mono ?_
  rintro e w14 ⟨rfl, rfl⟩
  go_wp2
  go_ret
  exact ⟨rfl, C13⟩
set_option maxRecDepth 100000 in
theorem lifted_FnExactSharesOf (os : Os) (started : os.Started) (H : Type) (enc : TypeId × Value → H) :
    ReturnsInHanded {} Try.checked os 12 .any (Rows.fnExactSharesOfSpec.pre6 enc Try.prog Try.f12 Rows.fnExactSharesOfRow.domain false) (Rows.fnExactSharesOfSpec.post enc Try.prog Try.f12 false true false false) := by
  refine returnsInHanded_of_change (C := Try.checked) (by kernel_rfl) started (by kernel_rfl) Try.func12
    (ChangeSpec.witness6 (enc := enc) (C := Try.checked) false ⟨#[], #[.slice none 0 0], []⟩ 8 (by kernel_rfl) (by kernel_rfl) (by kernel_rfl) (by kernel_rfl)) ?_
  intro W base args ds gs before hval0 hW hcnd _
  have hval : ∀ (j : Nat) t v, Try.f12.params[j]? = some t → args[j]? = some v → Value.okWide Try.prog W .any base t v := hval0
  have hW' := hW
  obtain ⟨p, q, hA0, hV, rfl, hfz, hnd⟩ := hW
  have hA : DataW.TrodAll enc Try.prog W 0 (fun _ => true) true Try.f12.params.toList args.toList ds p := hA0
  rw [Try.params12] at hA hval
  obtain ⟨v0, vs0, d0, ds0, p0, q0, hargs, rfl, rfl, h0, r0⟩ := trodAll_cons hA
  obtain ⟨rfl, rfl, rfl⟩ := trodAll_nil r0
  obtain rfl : args = #[v0] := by cases args; simp_all
  obtain ⟨rfl, rfl⟩ := trodVars_none hV
  obtain ⟨a0, len0, cap0, rfl⟩ := okWide_slice Try.underlying27 (hval 0 27 v0 rfl rfl)
  have k0 := h0
  have lt0 : ∀ x ∈ p0, x.block < W.heap.size := by obtain ⟨m, hm⟩ := k0; exact DataW.trod_lt m _ _ _ hm
  obtain ⟨z0, H0, U0, M0⟩ := hasB_of_trod Try.underlying27 Try.underlying4 (by kernel_rfl) h0
  clear hA0 hval0
  refine (walk_FnExactSharesOf H0 U0 M0).mono fun e W' ⟨he, bel⟩ => ?_
  subst he
  exact ⟨_, rfl, _, _, _, [], _, [], hW', trodAll_mk1 (shut_bool Try.underlying4 _), (trodAll_cons_mk (Below.trod (by kernel_rfl) (by kernel_rfl) (of_decide_eq_true (by kernel_rfl)) k0 bel lt0) trodAll_mk0), rfl, bel.frame _, fun h => by cases h⟩

theorem fnExactSharesOf_holds : Rows.FnExactSharesOfSaid :=
  OpenClaim.holds_of_wide 12 Try.f12 rfl rfl rfl rfl rfl rfl rfl ⟨rfl, rfl, rfl, rfl, rfl⟩ rfl rfl rfl rfl rfl (by kernel_rfl) Try.func12
    (by unfold joinedFacts; with_reducible refine Bool.and_eq_true_iff.2 ⟨?_, (by as_aux_lemma => kernel_rfl)⟩; with_reducible refine Bool.and_eq_true_iff.2 ⟨?_, (by as_aux_lemma => kernel_rfl)⟩; with_reducible refine Bool.and_eq_true_iff.2 ⟨?_, (by as_aux_lemma => kernel_rfl)⟩; with_reducible refine Bool.and_eq_true_iff.2 ⟨?_, (by as_aux_lemma => kernel_rfl)⟩; with_reducible refine Bool.and_eq_true_iff.2 ⟨?_, (by with_unfolding_all exact shutMake)⟩; with_reducible refine Bool.and_eq_true_iff.2 ⟨?_, (by with_unfolding_all exact shutLifts)⟩; with_reducible refine Bool.and_eq_true_iff.2 ⟨?_, shutEnter⟩; (repeat (with_reducible refine Bool.and_eq_true_iff.2 ⟨?_, (by as_aux_lemma => kernel_rfl)⟩)); as_aux_lemma => kernel_rfl)
    (of_decide_eq_true (by kernel_rfl)) (by unfold Func.isWrapper; first | (rw [if_pos (by decide +kernel)]; kernel_rfl) | (rw [if_neg (by decide +kernel)]; exact ⟨rfl, rfl⟩))
    (fun os started H enc _ => lifted_FnExactSharesOf os started H enc)
end Go.Proofs.Ytimddobedgopiaa
