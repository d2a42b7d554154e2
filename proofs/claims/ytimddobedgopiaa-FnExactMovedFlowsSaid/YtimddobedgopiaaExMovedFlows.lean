/-
  FnExactMovedFlows: for every argument the exact law of MovedFlows returns true and writes nothing that was there. No condition.
-/
import Derived.Test.YtimddobedgopiaaFlowX
import Derived.Test.YtimddobedgopiaaShut
namespace Go.Proofs.Ytimddobedgopiaa
open Go.RowKit Go.ChangeShapes Go.WideShapes Go.ChangeAt

set_option maxHeartbeats 2000000 in
theorem walk_FnExactMovedFlows {A0 : Option Addr} {n0 c0 : Nat} {zs0 : List Bool} {A1 : Option Addr} {n1 c1 : Nat} {zs1 : List Bool} {w : World} (h0 : Has w A0 n0 (bools zs0)) (_ : True) (_ : n0 ≤ c0 ∧ c0 ≤ maxLen) (h1 : Has w A1 n1 (bools zs1)) (_ : True) (_ : n1 ≤ c1 ∧ c1 ≤ maxLen) :
    Calls Try.prog 13 #[.slice A0 n0 c0, .slice A1 n1 c1] w fun e w' => e = .returned (.bool true) ∧ Below w.heap.size w w' := by
  by_cases hn0 : n0 ≤ 1048576
  rotate_left
  · go_enter Try.func13, Try.ntmps13
    go_wp2
    go_ret
    exact ⟨rfl, Below.refl _ _⟩
  by_cases hn1 : n1 ≤ 1048576
  rotate_left
  · go_enter Try.func13, Try.ntmps13
    go_wp2
    go_ret
    exact ⟨rfl, Below.refl _ _⟩
  have B0 : Below w.heap.size w w := Below.refl _ _
  go_enter Try.func13, Try.ntmps13
  go_wp2_with (fail)
  refine (toBoolS_any (h0.bel B0) (by omega)).mono ?_
  rintro e w1 ⟨gp0, rfl, O1, B1⟩
  have S1 : w.heap.size ≤ w1.heap.size := B1.size
  have C1 := bel_trans B0 B1
  go_wp2_with (fail)
  refine (toBoolS_any (h1.bel C1) (by omega)).mono ?_
  rintro e w2 ⟨gp1, rfl, O2, B2⟩
  have S2 : w1.heap.size ≤ w2.heap.size := B2.size
  have C2 := bel_trans C1 B2
  have p0_2 := O1.bel B2
  go_wp2_with (fail)
  refine (specMovedFlows_any p0_2.has (by omega) O2.has (by omega)).mono ?_
  rintro e w3 ⟨rfl, B3⟩
  have S3 : w2.heap.size ≤ w3.heap.size := B3.size
  have C3 := bel_trans C2 B3
  have p0_3 := p0_2.bel B3
  have p1_3 := O2.bel B3
  go_wp2_with (fail)
  refine (toBoolS_any (h0.bel C3) (by omega)).mono ?_
  rintro e w4 ⟨gx0, rfl, O4, B4⟩
  have S4 : w3.heap.size ≤ w4.heap.size := B4.size
  have C4 := bel_trans C3 B4
  go_wp2_with (fail)
  refine (toBoolS_any (h1.bel C4) (by omega)).mono ?_
  rintro e w5 ⟨gx1, rfl, O5, B5⟩
  have S5 : w4.heap.size ≤ w5.heap.size := B5.size
  have C5 := bel_trans C4 B5
  have x0_5 := O4.bel B5
  go_wp2_with (fail)
  refine (implMovedFlows_any x0_5.has (by omega) O5.has (by omega)).mono ?_
  rintro e w6 ⟨rfl, B6⟩
  have S6 : w5.heap.size ≤ w6.heap.size := B6.size
  have C6 := bel_trans C5 B6
  have x0_6 := x0_5.bel B6
  have x1_6 := O5.bel B6
  go_wp2_with (fail)
  refine (toBoolS_any (h0.bel C6) (by omega)).mono ?_
  rintro e w7 ⟨gy0, rfl, O7, B7⟩
  have S7 : w6.heap.size ≤ w7.heap.size := B7.size
  have C7 := bel_trans C6 B7
  have x0_7 := x0_6.bel B7
  have x1_7 := x1_6.bel B7
  go_wp2_with (fail)
  refine (eqBoolS_b x0_7.has O7.has (by omega)).mono ?_
  rintro e w8 ⟨rfl, B8⟩
  have S8 : w7.heap.size ≤ w8.heap.size := B8.size
  have C8 := bel_trans C7 B8
  have x0_8 := x0_7.bel B8
  have x1_8 := x1_7.bel B8
  have y0_8 := O7.bel B8
  go_wp2_with (fail)
  refine (toBoolS_any (h1.bel C8) (by omega)).mono ?_
  rintro e w9 ⟨gy1, rfl, O9, B9⟩
  have S9 : w8.heap.size ≤ w9.heap.size := B9.size
  have C9 := bel_trans C8 B9
  have x0_9 := x0_8.bel B9
  have x1_9 := x1_8.bel B9
  go_wp2_with (fail)
  refine (eqBoolS_b x1_9.has O9.has (by omega)).mono ?_
  rintro e w10 ⟨rfl, B10⟩
  have S10 : w9.heap.size ≤ w10.heap.size := B10.size
  have C10 := bel_trans C9 B10
  have x0_10 := x0_9.bel B10
  have x1_10 := x1_9.bel B10
  have y1_10 := O9.bel B10
  go_wp2
  go_ret
  exact ⟨rfl, C10⟩
set_option maxRecDepth 100000 in
theorem lifted_FnExactMovedFlows (os : Os) (started : os.Started) (H : Type) (enc : TypeId × Value → H) :
    ReturnsInHanded {} Try.checked os 13 .any (Rows.fnExactMovedFlowsSpec.pre6 enc Try.prog Try.f13 Rows.fnExactMovedFlowsRow.domain false) (Rows.fnExactMovedFlowsSpec.post enc Try.prog Try.f13 false true false false) := by
  refine returnsInHanded_of_change (C := Try.checked) (by kernel_rfl) started (by kernel_rfl) Try.func13
    (ChangeSpec.witness6 (enc := enc) (C := Try.checked) false ⟨#[], #[.slice none 0 0, .slice none 0 0], []⟩ 8 (by kernel_rfl) (by kernel_rfl) (by kernel_rfl) (by kernel_rfl)) ?_
  intro W base args ds gs before hval0 hW hcnd _
  have hval : ∀ (j : Nat) t v, Try.f13.params[j]? = some t → args[j]? = some v → Value.okWide Try.prog W .any base t v := hval0
  have hW' := hW
  obtain ⟨p, q, hA0, hV, rfl, hfz, hnd⟩ := hW
  have hA : DataW.TrodAll enc Try.prog W 0 (fun _ => true) true Try.f13.params.toList args.toList ds p := hA0
  rw [Try.params13] at hA hval
  obtain ⟨v0, vs0, d0, ds0, p0, q0, hargs, rfl, rfl, h0, r0⟩ := trodAll_cons hA
  obtain ⟨v1, vs1, d1, ds1, p1, q1, rfl, rfl, rfl, h1, r1⟩ := trodAll_cons r0
  obtain ⟨rfl, rfl, rfl⟩ := trodAll_nil r1
  obtain rfl : args = #[v0, v1] := by cases args; simp_all
  obtain ⟨rfl, rfl⟩ := trodVars_none hV
  obtain ⟨a0, len0, cap0, rfl⟩ := okWide_slice Try.underlying27 (hval 0 27 v0 rfl rfl)
  have k0 := h0
  have lt0 : ∀ x ∈ p0, x.block < W.heap.size := by obtain ⟨m, hm⟩ := k0; exact DataW.trod_lt m _ _ _ hm
  obtain ⟨z0, H0, U0, M0⟩ := hasB_of_trod Try.underlying27 Try.underlying4 (by kernel_rfl) h0
  obtain ⟨a1, len1, cap1, rfl⟩ := okWide_slice Try.underlying27 (hval 1 27 v1 rfl rfl)
  have k1 := h1
  have lt1 : ∀ x ∈ p1, x.block < W.heap.size := by obtain ⟨m, hm⟩ := k1; exact DataW.trod_lt m _ _ _ hm
  obtain ⟨z1, H1, U1, M1⟩ := hasB_of_trod Try.underlying27 Try.underlying4 (by kernel_rfl) h1
  clear hA0 hval0
  refine (walk_FnExactMovedFlows H0 U0 M0 H1 U1 M1).mono fun e W' ⟨he, bel⟩ => ?_
  subst he
  exact ⟨_, rfl, _, _, _, [], _, [], hW', trodAll_mk1 (shut_bool Try.underlying4 _), (trodAll_cons_mk (Below.trod (by kernel_rfl) (by kernel_rfl) (of_decide_eq_true (by kernel_rfl)) k0 bel lt0) (trodAll_cons_mk (Below.trod (by kernel_rfl) (by kernel_rfl) (of_decide_eq_true (by kernel_rfl)) k1 bel lt1) trodAll_mk0)), rfl, bel.frame _, fun h => by cases h⟩

theorem fnExactMovedFlows_holds : Rows.FnExactMovedFlowsSaid :=
  OpenClaim.holds_of_wide 13 Try.f13 rfl rfl rfl rfl rfl rfl rfl ⟨rfl, rfl, rfl, rfl, rfl⟩ rfl rfl rfl rfl rfl (by kernel_rfl) Try.func13
    (by unfold joinedFacts; with_reducible refine Bool.and_eq_true_iff.2 ⟨?_, (by as_aux_lemma => kernel_rfl)⟩; with_reducible refine Bool.and_eq_true_iff.2 ⟨?_, (by as_aux_lemma => kernel_rfl)⟩; with_reducible refine Bool.and_eq_true_iff.2 ⟨?_, (by as_aux_lemma => kernel_rfl)⟩; with_reducible refine Bool.and_eq_true_iff.2 ⟨?_, (by as_aux_lemma => kernel_rfl)⟩; with_reducible refine Bool.and_eq_true_iff.2 ⟨?_, (by with_unfolding_all exact shutMake)⟩; with_reducible refine Bool.and_eq_true_iff.2 ⟨?_, (by with_unfolding_all exact shutLifts)⟩; with_reducible refine Bool.and_eq_true_iff.2 ⟨?_, shutEnter⟩; (repeat (with_reducible refine Bool.and_eq_true_iff.2 ⟨?_, (by as_aux_lemma => kernel_rfl)⟩)); as_aux_lemma => kernel_rfl)
    (of_decide_eq_true (by kernel_rfl)) (by unfold Func.isWrapper; first | (rw [if_pos (by decide +kernel)]; kernel_rfl) | (rw [if_neg (by decide +kernel)]; exact ⟨rfl, rfl⟩))
    (fun os started H enc _ => lifted_FnExactMovedFlows os started H enc)
end Go.Proofs.Ytimddobedgopiaa
