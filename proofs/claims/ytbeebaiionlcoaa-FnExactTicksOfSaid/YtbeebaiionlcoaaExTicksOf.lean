/-
  FnExactTicksOf: for every argument the exact law of TicksOf returns true and writes nothing that was there. No condition.
-/
import Derived.Test.YtbeebaiionlcoaaImp8
import Derived.Test.YtbeebaiionlcoaaShut
namespace Go.Proofs.Ytbeebaiionlcoaa
open Go.RowKit Go.ChangeShapes Go.WideShapes Go.ChangeAt

set_option maxHeartbeats 2000000 in
theorem walk_FnExactTicksOf {A0 : Option Addr} {n0 c0 : Nat} {zs0 : List Int} {A1 : Option Addr} {n1 c1 : Nat} {zs1 : List Int} {w : World} (h0 : Has w A0 n0 (ints .i64 zs0)) (hwf0 : ∀ z ∈ zs0, (Lit.int .i64 z).wf = true) (_ : n0 ≤ c0 ∧ c0 ≤ maxLen) (h1 : Has w A1 n1 (ints .i64 zs1)) (hwf1 : ∀ z ∈ zs1, (Lit.int .i64 z).wf = true) (_ : n1 ≤ c1 ∧ c1 ≤ maxLen) :
    Calls Try.prog 12 #[.slice A0 n0 c0, .slice A1 n1 c1] w fun e w' => e = .returned (.bool true) ∧ Below w.heap.size w w' := by
  have hu0 : I64s zs0 := fun z hz => i64_of_wf (hwf0 z hz)
  clear hwf0
  have hu1 : I64s zs1 := fun z hz => i64_of_wf (hwf1 z hz)
  clear hwf1
  by_cases hn0 : n0 ≤ 1048576
  rotate_left
  · go_enter Try.func12, Try.ntmps12
    go_wp2
    go_ret
    exact ⟨rfl, Below.refl _ _⟩
  by_cases hn1 : n1 ≤ 1048576
  rotate_left
  · go_enter Try.func12, Try.ntmps12
    go_wp2
    go_ret
    exact ⟨rfl, Below.refl _ _⟩
  have B0 : Below w.heap.size w w := Below.refl _ _
  go_enter Try.func12, Try.ntmps12
  go_wp2_with (fail)
  refine (toIntS_any (h0.bel B0) (by omega)).mono ?_
  rintro e w1 ⟨gp0, rfl, O1, B1⟩
  have S1 : w.heap.size ≤ w1.heap.size := B1.size
  have C1 := bel_trans B0 B1
  go_wp2_with (fail)
  refine (toIntS_any (h1.bel C1) (by omega)).mono ?_
  rintro e w2 ⟨gp1, rfl, O2, B2⟩
  have S2 : w1.heap.size ≤ w2.heap.size := B2.size
  have C2 := bel_trans C1 B2
  have p0_2 := O1.bel B2
  go_wp2_with (fail)
  refine (specTicksOf_any p0_2.has hu0 (by omega) O2.has hu1 (by omega)).mono ?_
  rintro e w3 ⟨AW, nW, cW, rfl, O3, B3⟩
  have S3 : w2.heap.size ≤ w3.heap.size := B3.size
  have C3 := bel_trans C2 B3
  have p0_3 := p0_2.bel B3
  have p1_3 := O2.bel B3
  have hnW : nW ≤ 16000 := by have q1 := O3.has.len; have q2 := ticksL_len zs0 zs1; omega
  go_wp2_with (fail)
  refine (toIntS_any (h0.bel C3) (by omega)).mono ?_
  rintro e w4 ⟨gx0, rfl, O4, B4⟩
  have S4 : w3.heap.size ≤ w4.heap.size := B4.size
  have C4 := bel_trans C3 B4
  have W_4 := O3.bel B4
  go_wp2_with (fail)
  refine (toIntS_any (h1.bel C4) (by omega)).mono ?_
  rintro e w5 ⟨gx1, rfl, O5, B5⟩
  have S5 : w4.heap.size ≤ w5.heap.size := B5.size
  have C5 := bel_trans C4 B5
  have W_5 := W_4.bel B5
  have x0_5 := O4.bel B5
  go_wp2_with (fail)
  refine (implTicksOf_any x0_5.has hu0 (by omega) O5.has hu1 (by omega)).mono ?_
  rintro e w6 ⟨AG, nG, cG, rfl, O6, B6⟩
  have S6 : w5.heap.size ≤ w6.heap.size := B6.size
  have C6 := bel_trans C5 B6
  have W_6 := W_5.bel B6
  have x0_6 := x0_5.bel B6
  have x1_6 := O5.bel B6
  have hnG : nG ≤ 16000 := by have q1 := O6.has.len; have q2 := ticksL_len zs0 zs1; omega
  go_wp2_with (fail)
  refine (eqIntS_b O6.has W_6.has (by omega)).mono ?_
  rintro e w7 ⟨rfl, B7⟩
  have S7 : w6.heap.size ≤ w7.heap.size := B7.size
  have C7 := bel_trans C6 B7
  have W_7 := W_6.bel B7
  have x0_7 := x0_6.bel B7
  have x1_7 := x1_6.bel B7
  have G_7 := O6.bel B7
  go_wp2_with (fail)
  refine (toIntS_any (h0.bel C7) (by omega)).mono ?_
  rintro e w8 ⟨gy0, rfl, O8, B8⟩
  have S8 : w7.heap.size ≤ w8.heap.size := B8.size
  have C8 := bel_trans C7 B8
  have W_8 := W_7.bel B8
  have x0_8 := x0_7.bel B8
  have x1_8 := x1_7.bel B8
  have G_8 := G_7.bel B8
  go_wp2_with (fail)
  refine (eqIntS_b x0_8.has O8.has (by omega)).mono ?_
  rintro e w9 ⟨rfl, B9⟩
  have S9 : w8.heap.size ≤ w9.heap.size := B9.size
  have C9 := bel_trans C8 B9
  have W_9 := W_8.bel B9
  have x0_9 := x0_8.bel B9
  have x1_9 := x1_8.bel B9
  have G_9 := G_8.bel B9
  have y0_9 := O8.bel B9
  go_wp2_with (fail)
  refine (toIntS_any (h1.bel C9) (by omega)).mono ?_
  rintro e w10 ⟨gy1, rfl, O10, B10⟩
  have S10 : w9.heap.size ≤ w10.heap.size := B10.size
  have C10 := bel_trans C9 B10
  have W_10 := W_9.bel B10
  have x0_10 := x0_9.bel B10
  have x1_10 := x1_9.bel B10
  have G_10 := G_9.bel B10
  go_wp2_with (fail)
  refine (eqIntS_b x1_10.has O10.has (by omega)).mono ?_
  rintro e w11 ⟨rfl, B11⟩
  have S11 : w10.heap.size ≤ w11.heap.size := B11.size
  have C11 := bel_trans C10 B11
  have W_11 := W_10.bel B11
  have x0_11 := x0_10.bel B11
  have x1_11 := x1_10.bel B11
  have G_11 := G_10.bel B11
  have y1_11 := O10.bel B11
  go_wp2_with (fail)
  refine (markIntS_any x0_11 (K := 1) (by omega) (by omega)).mono ?_
  rintro e w12 ⟨rfl, x0_12, M12⟩
  have S12 : w11.heap.size ≤ w12.heap.size := M12.size
  have C12 := bel_grown C11 M12 (O4.ge (by omega))
  have W_12 := W_11.earlier (z := w3) O3.lt (O4.ge (by omega)) M12
  have x1_12 := x1_11.later (fun ad hh => by have := O4.lt ad hh; omega) M12
  have G_12 := G_11.later (fun ad hh => by have := O4.lt ad hh; omega) M12
  go_wp2_with (fail)
  refine (markIntS_any x1_12 (K := 1 + n0) (by omega) (by omega)).mono ?_
  rintro e w13 ⟨rfl, x1_13, M13⟩
  have S13 : w12.heap.size ≤ w13.heap.size := M13.size
  have C13 := bel_grown C12 M13 (O5.ge (by omega))
  have W_13 := W_12.earlier (z := w3) O3.lt (O5.ge (by omega)) M13
  have G_13 := G_12.later (fun ad hh => by have := O5.lt ad hh; omega) M13
  go_wp2_with (fail)
  refine (eqIntS_b G_13.has W_13.has (by omega)).mono ?_
  rintro e w14 ⟨rfl, B14⟩
  have S14 : w13.heap.size ≤ w14.heap.size := B14.size
  have C14 := bel_trans C13 B14
  have W_14 := W_13.bel B14
  have G_14 := G_13.bel B14
  go_wp2_with (fail)
  refine (markIntS_any G_14 (K := 1) (by omega) (by omega)).mono ?_
  rintro e w15 ⟨rfl, G_15, M15⟩
  have S15 : w14.heap.size ≤ w15.heap.size := M15.size
  have C15 := bel_grown C14 M15 (O6.ge (by omega))
  have W_15 := W_14.earlier (z := w3) O3.lt (O6.ge (by omega)) M15
  go_wp2_with (fail)
  refine (heldIntS_any G_15.has (by omega) (by omega)).mono ?_
  rintro e w16 ⟨rfl, rfl⟩
  go_wp2_with (fail)
  refine (toIntS_any (h0.bel C15) (by omega)).mono ?_
  rintro e w16 ⟨gz0, rfl, O16, B16⟩
  have S16 : w15.heap.size ≤ w16.heap.size := B16.size
  have C16 := bel_trans C15 B16
  have W_16 := W_15.bel B16
  have G_16 := G_15.bel B16
  go_wp2_with (fail)
  refine (toIntS_any (h1.bel C16) (by omega)).mono ?_
  rintro e w17 ⟨gz1, rfl, O17, B17⟩
  have S17 : w16.heap.size ≤ w17.heap.size := B17.size
  have C17 := bel_trans C16 B17
  have W_17 := W_16.bel B17
  have G_17 := G_16.bel B17
  have z0_17 := O16.bel B17
  go_wp2_with (fail)
  refine (implTicksOf_any z0_17.has hu0 (by omega) O17.has hu1 (by omega)).mono ?_
  rintro e w18 ⟨AH, nH, cH, rfl, O18, B18⟩
  have S18 : w17.heap.size ≤ w18.heap.size := B18.size
  have C18 := bel_trans C17 B18
  have W_18 := W_17.bel B18
  have G_18 := G_17.bel B18
  have z0_18 := z0_17.bel B18
  have z1_18 := O17.bel B18
  have hnH : nH ≤ 16000 := by have q1 := O18.has.len; have q2 := ticksL_len zs0 zs1; omega
  go_wp2_with (fail)
  refine (eqIntS_b O18.has W_18.has (by omega)).mono ?_
  rintro e w19 ⟨rfl, B19⟩
  have S19 : w18.heap.size ≤ w19.heap.size := B19.size
  have C19 := bel_trans C18 B19
  have W_19 := W_18.bel B19
  have G_19 := G_18.bel B19
  have H_19 := O18.bel B19
  go_wp2_with (fail)
  refine (heldIntS_any G_19.has (by omega) (by omega)).mono ?_
  rintro e w20 ⟨rfl, rfl⟩
  go_wp2
  go_ret
  exact ⟨rfl, C19⟩
set_option maxRecDepth 100000 in
theorem lifted_FnExactTicksOf (os : Os) (started : os.Started) (H : Type) (enc : TypeId × Value → H) :
    ReturnsInHanded {} Try.checked os 12 .any (Rows.fnExactTicksOfSpec.pre6 enc Try.prog Try.f12 Rows.fnExactTicksOfRow.domain false) (Rows.fnExactTicksOfSpec.post enc Try.prog Try.f12 false true false false) := by
  refine returnsInHanded_of_change (C := Try.checked) (by kernel_rfl) started (by kernel_rfl) Try.func12
    (ChangeSpec.witness6 (enc := enc) (C := Try.checked) false ⟨#[], #[.slice none 0 0, .slice none 0 0], []⟩ 8 (by kernel_rfl) (by kernel_rfl) (by kernel_rfl) (by kernel_rfl)) ?_
  intro W base args ds gs before hval0 hW hcnd _
  have hval : ∀ (j : Nat) t v, Try.f12.params[j]? = some t → args[j]? = some v → Value.okWide Try.prog W .any base t v := hval0
  have hW' := hW
  obtain ⟨p, q, hA0, hV, rfl, hfz, hnd⟩ := hW
  have hA : DataW.TrodAll enc Try.prog W 0 (fun _ => true) true Try.f12.params.toList args.toList ds p := hA0
  rw [Try.params12] at hA hval
  obtain ⟨v0, vs0, d0, ds0, p0, q0, hargs, rfl, rfl, h0, r0⟩ := trodAll_cons hA
  obtain ⟨v1, vs1, d1, ds1, p1, q1, rfl, rfl, rfl, h1, r1⟩ := trodAll_cons r0
  obtain ⟨rfl, rfl, rfl⟩ := trodAll_nil r1
  obtain rfl : args = #[v0, v1] := by cases args; simp_all
  obtain ⟨rfl, rfl⟩ := trodVars_none hV
  obtain ⟨a0, len0, cap0, rfl⟩ := okWide_slice Try.underlying23 (hval 0 23 v0 rfl rfl)
  have k0 := h0
  have lt0 : ∀ x ∈ p0, x.block < W.heap.size := by obtain ⟨m, hm⟩ := k0; exact DataW.trod_lt m _ _ _ hm
  obtain ⟨z0, H0, U0, M0⟩ := has_of_trod (k := .i64) Try.underlying23 Try.underlying3 (by kernel_rfl) h0
  obtain ⟨a1, len1, cap1, rfl⟩ := okWide_slice Try.underlying23 (hval 1 23 v1 rfl rfl)
  have k1 := h1
  have lt1 : ∀ x ∈ p1, x.block < W.heap.size := by obtain ⟨m, hm⟩ := k1; exact DataW.trod_lt m _ _ _ hm
  obtain ⟨z1, H1, U1, M1⟩ := has_of_trod (k := .i64) Try.underlying23 Try.underlying3 (by kernel_rfl) h1
  clear hA0 hval0
  refine (walk_FnExactTicksOf H0 U0 M0 H1 U1 M1).mono fun e W' ⟨he, bel⟩ => ?_
  subst he
  exact ⟨_, rfl, _, _, _, [], _, [], hW', trodAll_mk1 (shut_bool Try.underlying4 _), (trodAll_cons_mk (Below.trod (by kernel_rfl) (by kernel_rfl) (of_decide_eq_true (by kernel_rfl)) k0 bel lt0) (trodAll_cons_mk (Below.trod (by kernel_rfl) (by kernel_rfl) (of_decide_eq_true (by kernel_rfl)) k1 bel lt1) trodAll_mk0)), rfl, bel.frame _, fun h => by cases h⟩

theorem fnExactTicksOf_holds : Rows.FnExactTicksOfSaid :=
  OpenClaim.holds_of_wide 12 Try.f12 rfl rfl rfl rfl rfl rfl rfl ⟨rfl, rfl, rfl, rfl, rfl⟩ rfl rfl rfl rfl rfl (by kernel_rfl) Try.func12
    (by unfold joinedFacts; with_reducible refine Bool.and_eq_true_iff.2 ⟨?_, (by as_aux_lemma => kernel_rfl)⟩; with_reducible refine Bool.and_eq_true_iff.2 ⟨?_, (by as_aux_lemma => kernel_rfl)⟩; with_reducible refine Bool.and_eq_true_iff.2 ⟨?_, (by as_aux_lemma => kernel_rfl)⟩; with_reducible refine Bool.and_eq_true_iff.2 ⟨?_, (by as_aux_lemma => kernel_rfl)⟩; with_reducible refine Bool.and_eq_true_iff.2 ⟨?_, (by with_unfolding_all exact shutMake)⟩; with_reducible refine Bool.and_eq_true_iff.2 ⟨?_, (by with_unfolding_all exact shutLifts)⟩; with_reducible refine Bool.and_eq_true_iff.2 ⟨?_, shutEnter⟩; (repeat (with_reducible refine Bool.and_eq_true_iff.2 ⟨?_, (by as_aux_lemma => kernel_rfl)⟩)); as_aux_lemma => kernel_rfl)
    (of_decide_eq_true (by kernel_rfl)) (by unfold Func.isWrapper; first | (rw [if_pos (by decide +kernel)]; kernel_rfl) | (rw [if_neg (by decide +kernel)]; exact ⟨rfl, rfl⟩))
    (fun os started H enc _ => lifted_FnExactTicksOf os started H enc)
end Go.Proofs.Ytbeebaiionlcoaa
