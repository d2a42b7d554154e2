/-
  FnExactLinkBound: for every two ints and two slices of ints the exact law of LinkBound returns true and writes nothing that was there. No condition.
-/
import Derived.Test.YtdkljljalfjpoaaImp5
namespace Go.Proofs.Ytdkljljalfjpoaa
open Go.RowKit Go.ChangeShapes Go.WideShapes Go.ChangeAt

set_option maxHeartbeats 2000000 in
theorem walk_FnExactLinkBound {a0 : Int} {a1 : Int} {A2 : Option Addr} {n2 c2 : Nat} {zs2 : List Int} {A3 : Option Addr} {n3 c3 : Nat} {zs3 : List Int} {w : World} (hb0 : -9223372036854775808 ≤ a0 ∧ a0 ≤ 9223372036854775807) (hb1 : -9223372036854775808 ≤ a1 ∧ a1 ≤ 9223372036854775807) (h2 : Has w A2 n2 (ints .i64 zs2)) (hwf2 : ∀ z ∈ zs2, (Lit.int .i64 z).wf = true) (_ : n2 ≤ c2 ∧ c2 ≤ maxLen) (h3 : Has w A3 n3 (ints .i64 zs3)) (hwf3 : ∀ z ∈ zs3, (Lit.int .i64 z).wf = true) (_ : n3 ≤ c3 ∧ c3 ≤ maxLen) :
    Calls Try.prog 3 #[.int .i64 a0, .int .i64 a1, .slice A2 n2 c2, .slice A3 n3 c3] w fun e w' => e = .returned (.bool true) ∧ Below w.heap.size w w' := by
  have hu2 : I64s zs2 := fun z hz => i64_of_wf (hwf2 z hz)
  clear hwf2
  have hu3 : I64s zs3 := fun z hz => i64_of_wf (hwf3 z hz)
  clear hwf3
  by_cases hn2 : n2 ≤ 1048576
  rotate_left
  · go_enter Try.func3, Try.ntmps3
    go_wp2
    go_ret
    exact ⟨rfl, Below.refl _ _⟩
  by_cases hn3 : n3 ≤ 1048576
  rotate_left
  · go_enter Try.func3, Try.ntmps3
    go_wp2
    go_ret
    exact ⟨rfl, Below.refl _ _⟩
  have B0 : Below w.heap.size w w := Below.refl _ _
  go_enter Try.func3, Try.ntmps3
  go_wp2_with (fail)
  refine (toIntS_any (h2.bel B0) (by omega)).mono ?_
  rintro e w1 ⟨gp2, rfl, O1, B1⟩
  have S1 : w.heap.size ≤ w1.heap.size := B1.size
  have C1 := bel_trans B0 B1
  go_wp2_with (fail)
  refine (toIntS_any (h3.bel C1) (by omega)).mono ?_
  rintro e w2 ⟨gp3, rfl, O2, B2⟩
  have S2 : w1.heap.size ≤ w2.heap.size := B2.size
  have C2 := bel_trans C1 B2
  have p2_2 := O1.bel B2
  go_wp2_with (fail)
  refine (specLinkBound_any hb0 hb1 p2_2.has hu2 (by omega) O2.has hu3 (by omega)).mono ?_
  rintro e w3 ⟨rfl, B3⟩
  have S3 : w2.heap.size ≤ w3.heap.size := B3.size
  have C3 := bel_trans C2 B3
  have p2_3 := p2_2.bel B3
  have p3_3 := O2.bel B3
  go_wp2_with (fail)
  refine (toIntS_any (h2.bel C3) (by omega)).mono ?_
  rintro e w4 ⟨gx2, rfl, O4, B4⟩
  have S4 : w3.heap.size ≤ w4.heap.size := B4.size
  have C4 := bel_trans C3 B4
  go_wp2_with (fail)
  refine (toIntS_any (h3.bel C4) (by omega)).mono ?_
  rintro e w5 ⟨gx3, rfl, O5, B5⟩
  have S5 : w4.heap.size ≤ w5.heap.size := B5.size
  have C5 := bel_trans C4 B5
  have x2_5 := O4.bel B5
  go_wp2_with (fail)
  refine (implLinkBound_any hb0 hb1 x2_5.has hu2 (by omega) O5.has hu3 (by omega)).mono ?_
  rintro e w6 ⟨rfl, B6⟩
  have S6 : w5.heap.size ≤ w6.heap.size := B6.size
  have C6 := bel_trans C5 B6
  have x2_6 := x2_5.bel B6
  have x3_6 := O5.bel B6
  go_wp2_with (fail)
  refine (toIntS_any (h2.bel C6) (by omega)).mono ?_
  rintro e w7 ⟨gy2, rfl, O7, B7⟩
  have S7 : w6.heap.size ≤ w7.heap.size := B7.size
  have C7 := bel_trans C6 B7
  have x2_7 := x2_6.bel B7
  have x3_7 := x3_6.bel B7
  go_wp2_with (fail)
  refine (eqIntS_b x2_7.has O7.has (by omega)).mono ?_
  rintro e w8 ⟨rfl, B8⟩
  have S8 : w7.heap.size ≤ w8.heap.size := B8.size
  have C8 := bel_trans C7 B8
  have x2_8 := x2_7.bel B8
  have x3_8 := x3_7.bel B8
  have y2_8 := O7.bel B8
  go_wp2_with (fail)
  refine (toIntS_any (h3.bel C8) (by omega)).mono ?_
  rintro e w9 ⟨gy3, rfl, O9, B9⟩
  have S9 : w8.heap.size ≤ w9.heap.size := B9.size
  have C9 := bel_trans C8 B9
  have x2_9 := x2_8.bel B9
  have x3_9 := x3_8.bel B9
  go_wp2_with (fail)
  refine (eqIntS_b x3_9.has O9.has (by omega)).mono ?_
  rintro e w10 ⟨rfl, B10⟩
  have S10 : w9.heap.size ≤ w10.heap.size := B10.size
  have C10 := bel_trans C9 B10
  have x2_10 := x2_9.bel B10
  have x3_10 := x3_9.bel B10
  have y3_10 := O9.bel B10
  go_wp2
  go_ret
  exact ⟨rfl, C10⟩
set_option maxRecDepth 100000 in
theorem lifted_FnExactLinkBound (os : Os) (started : os.Started) (H : Type) (enc : TypeId × Value → H) :
    ReturnsInHanded {} Try.checked os 3 .any (Rows.fnExactLinkBoundSpec.pre6 enc Try.prog Try.f3 Rows.fnExactLinkBoundRow.domain false) (Rows.fnExactLinkBoundSpec.post enc Try.prog Try.f3 false true false false) := by
  refine returnsInHanded_of_change (C := Try.checked) (by kernel_rfl) started (by kernel_rfl) Try.func3
    (ChangeSpec.witness6 (enc := enc) (C := Try.checked) false ⟨#[], #[.int .i64 0, .int .i64 0, .slice none 0 0, .slice none 0 0], []⟩ 8 (by kernel_rfl) (by kernel_rfl) (by kernel_rfl) (by kernel_rfl)) ?_
  intro W base args ds gs before hval0 hW hcnd _
  have hval : ∀ (j : Nat) t v, Try.f3.params[j]? = some t → args[j]? = some v → Value.okWide Try.prog W .any base t v := hval0
  have hW' := hW
  obtain ⟨p, q, hA0, hV, rfl, hfz, hnd⟩ := hW
  have hA : DataW.TrodAll enc Try.prog W 0 (fun _ => true) true Try.f3.params.toList args.toList ds p := hA0
  rw [Try.params3] at hA hval
  obtain ⟨v0, vs0, d0, ds0, p0, q0, hargs, rfl, rfl, h0, r0⟩ := trodAll_cons hA
  obtain ⟨v1, vs1, d1, ds1, p1, q1, rfl, rfl, rfl, h1, r1⟩ := trodAll_cons r0
  obtain ⟨v2, vs2, d2, ds2, p2, q2, rfl, rfl, rfl, h2, r2⟩ := trodAll_cons r1
  obtain ⟨v3, vs3, d3, ds3, p3, q3, rfl, rfl, rfl, h3, r3⟩ := trodAll_cons r2
  obtain ⟨rfl, rfl, rfl⟩ := trodAll_nil r3
  obtain rfl : args = #[v0, v1, v2, v3] := by cases args; simp_all
  obtain ⟨rfl, rfl⟩ := trodVars_none hV
  obtain ⟨a0, rfl, rfl, rfl, w0⟩ := open_int Try.underlying3 (hval 0 3 v0 rfl rfl) h0
  have b0 := i64_of_wf w0
  obtain ⟨a1, rfl, rfl, rfl, w1⟩ := open_int Try.underlying3 (hval 1 3 v1 rfl rfl) h1
  have b1 := i64_of_wf w1
  obtain ⟨a2, len2, cap2, rfl⟩ := okWide_slice Try.underlying22 (hval 2 22 v2 rfl rfl)
  have k2 := h2
  have lt2 : ∀ x ∈ p2, x.block < W.heap.size := by obtain ⟨m, hm⟩ := k2; exact DataW.trod_lt m _ _ _ hm
  obtain ⟨z2, H2, U2, M2⟩ := has_of_trod (k := .i64) Try.underlying22 Try.underlying3 (by kernel_rfl) h2
  obtain ⟨a3, len3, cap3, rfl⟩ := okWide_slice Try.underlying22 (hval 3 22 v3 rfl rfl)
  have k3 := h3
  have lt3 : ∀ x ∈ p3, x.block < W.heap.size := by obtain ⟨m, hm⟩ := k3; exact DataW.trod_lt m _ _ _ hm
  obtain ⟨z3, H3, U3, M3⟩ := has_of_trod (k := .i64) Try.underlying22 Try.underlying3 (by kernel_rfl) h3
  clear hA0 hval0
  refine (walk_FnExactLinkBound b0 b1 H2 U2 M2 H3 U3 M3).mono fun e W' ⟨he, bel⟩ => ?_
  subst he
  exact ⟨_, rfl, _, _, _, [], _, [], hW', trodAll_mk1 (shut_bool Try.underlying4 _), (trodAll_cons_mk (shut_int Try.underlying3 w0) (trodAll_cons_mk (shut_int Try.underlying3 w1) (trodAll_cons_mk (Below.trod (by kernel_rfl) (by kernel_rfl) (of_decide_eq_true (by kernel_rfl)) k2 bel lt2) (trodAll_cons_mk (Below.trod (by kernel_rfl) (by kernel_rfl) (of_decide_eq_true (by kernel_rfl)) k3 bel lt3) trodAll_mk0)))), rfl, bel.frame _, fun h => by cases h⟩

theorem fnExactLinkBound_holds : Rows.FnExactLinkBoundSaid :=
  OpenClaim.holds_of_wide 3 Try.f3 rfl rfl rfl rfl rfl rfl rfl ⟨rfl, rfl, rfl, rfl, rfl⟩ rfl rfl rfl rfl rfl (by kernel_rfl) Try.func3 (by kernel_rfl)
    (of_decide_eq_true (by kernel_rfl)) (by unfold Func.isWrapper; first | (rw [if_pos (by decide +kernel)]; kernel_rfl) | (rw [if_neg (by decide +kernel)]; exact ⟨rfl, rfl⟩))
    (fun os started H enc _ => lifted_FnExactLinkBound os started H enc)
end Go.Proofs.Ytdkljljalfjpoaa
