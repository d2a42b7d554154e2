/-
  FnExactSpanHas: for every argument the exact law of SpanHas returns true and writes nothing that was there. No condition.
-/
import Derived.Test.YtmifhkhanjiklaaTimA
import Derived.Test.YtmifhkhanjiklaaImp15a
import Derived.Test.YtmifhkhanjiklaaTimLaws
import Derived.Test.YtmifhkhanjiklaaShut
namespace Go.Proofs.Ytmifhkhanjiklaa
open Go.RowKit Go.ChangeShapes Go.WideShapes Go.ChangeAt

set_option maxRecDepth 100000 in
set_option maxHeartbeats 8000000 in
theorem walk_FnExactSpanHas {x y n : Int} {w : World} (_ : I64D [(x, y)]) (_ : -9223372036854775808 ≤ n ∧ n ≤ 9223372036854775807) :
    Calls Try.prog 16 #[.agg #[.int .i64 x, .int .i64 y], .int .i64 n] w fun e w' => e = .returned (.bool true) ∧ Below w.heap.size w w' := by
  obtain ⟨R, hR⟩ : ∃ R, decide (hasS (x, y) n) = R := ⟨_, rfl⟩
  have bB : (R != R) = false := by simp
  obtain ⟨w1, hw1⟩ : ∃ W, w.alloc (.cells #[.int .i64 x, .int .i64 y] 63) = W := ⟨_, rfl⟩
  have B1 : Below w.heap.size w w1 := hw1 ▸ below_allocQ w _
  have X_1 : DRow w1 w.heap.size 63 x y := hw1 ▸ dRow_alloc w _ _ _
  have S1 : w.heap.size ≤ w1.heap.size := B1.size
  have C1 := B1
  obtain ⟨cX10, cX11⟩ := X_1.cells
  go_enter Try.func16, Try.ntmps16
  go_wp2_with (fail)
  refine (toSpan_any x y _).mono ?_
  rintro e w2 ⟨rfl, B2⟩
  have S2 : w1.heap.size ≤ w2.heap.size := B2.size
  have C2 := bel_trans C1 B2
  have X_2 := X_1.bel B2
  go_wp2_with (fail)
  refine (specSpanHas_b hR).mono ?_
  rintro e w3 ⟨rfl, B3⟩
  have S3 : w2.heap.size ≤ w3.heap.size := B3.size
  have C3 := bel_trans C2 B3
  have X_3 := X_2.bel B3
  obtain ⟨cX30, cX31⟩ := X_3.cells
  go_wp2_with (fail)
  refine (toSpan_any x y _).mono ?_
  rintro e w4 ⟨rfl, B4⟩
  have S4 : w3.heap.size ≤ w4.heap.size := B4.size
  have C4 := bel_trans C3 B4
  have X_4 := X_3.bel B4
  go_wp2_with (fail)
  refine (implSpanHas_b hR).mono ?_
  rintro e w5 ⟨rfl, B5⟩
  have S5 : w4.heap.size ≤ w5.heap.size := B5.size
  have C5 := bel_trans C4 B5
  have X_5 := X_4.bel B5
  go_wp2
  go_ret
  exact ⟨rfl, C5⟩
set_option maxRecDepth 100000 in
theorem lifted_FnExactSpanHas (os : Os) (started : os.Started) (H : Type) (enc : TypeId × Value → H) :
    ReturnsInHanded {} Try.checked os 16 .any (Rows.fnExactSpanHasSpec.pre6 enc Try.prog Try.f16 Rows.fnExactSpanHasRow.domain false) (Rows.fnExactSpanHasSpec.post enc Try.prog Try.f16 false true false false) := by
  refine returnsInHanded_of_change (C := Try.checked) (by kernel_rfl) started (by kernel_rfl) Try.func16
    (ChangeSpec.witness6 (enc := enc) (C := Try.checked) false ⟨#[], #[.agg #[.int .i64 0, .int .i64 0], .int .i64 0], []⟩ 8 (by kernel_rfl) (by kernel_rfl) (by kernel_rfl) (by kernel_rfl)) ?_
  intro W base args ds gs before hval0 hW hcnd _
  have hval : ∀ (j : Nat) t v, Try.f16.params[j]? = some t → args[j]? = some v → Value.okWide Try.prog W .any base t v := hval0
  have hW' := hW
  obtain ⟨p, q, hA0, hV, rfl, hfz, hnd⟩ := hW
  have hA : DataW.TrodAll enc Try.prog W 0 (fun _ => true) true Try.f16.params.toList args.toList ds p := hA0
  rw [Try.params16] at hA hval
  obtain ⟨v0, vs0, d0, ds0, p0, q0, hargs, rfl, rfl, h0, r0⟩ := trodAll_cons hA
  obtain ⟨v1, vs1, d1, ds1, p1, q1, rfl, rfl, rfl, h1, r1⟩ := trodAll_cons r0
  obtain ⟨rfl, rfl, rfl⟩ := trodAll_nil r1
  obtain rfl : args = #[v0, v1] := by cases args; simp_all
  obtain ⟨rfl, rfl⟩ := trodVars_none hV
  obtain ⟨x0, y0, xd0, yd0, m0, rfl, rfl, rfl, xt0, yt0⟩ := Go.Joins.open_agg2 Try.underlying63 (by kernel_rfl) (by kernel_rfl) (hval 0 63 v0 rfl rfl) h0
  obtain ⟨xi0, xe0, rfl, xw0⟩ := DataW.trod_int Try.underlying3 xt0
  injection xe0 with xe0 _
  subst xe0
  obtain ⟨yi0, ye0, rfl, yw0⟩ := DataW.trod_int Try.underlying3 yt0
  injection ye0 with ye0 _
  subst ye0
  have hh0 : I64D [(xi0, yi0)] := fun z hz => by rw [List.mem_singleton.1 hz]; exact ⟨i64_of_wf xw0, i64_of_wf yw0⟩
  obtain ⟨a1, rfl, rfl, rfl, w1⟩ := open_int Try.underlying3 (hval 1 3 v1 rfl rfl) h1
  have b1 := i64_of_wf w1
  clear hA0 hval0
  refine (walk_FnExactSpanHas hh0 b1).mono fun e W' ⟨he, bel⟩ => ?_
  subst he
  exact ⟨_, rfl, _, _, _, [], _, [], hW', trodAll_mk1 (shut_bool Try.underlying4 _), (trodAll_cons_mk (Go.Joins.shut_agg2 Try.underlying63 (by kernel_rfl) (by kernel_rfl) ⟨1, trod_int_mk 0 Try.underlying3 xw0⟩ ⟨1, trod_int_mk 0 Try.underlying3 yw0⟩) (trodAll_cons_mk (shut_int Try.underlying3 w1) trodAll_mk0)), rfl, bel.frame _, fun h => by cases h⟩

theorem fnExactSpanHas_holds : Rows.FnExactSpanHasSaid :=
  OpenClaim.holds_of_wide 16 Try.f16 rfl rfl rfl rfl rfl rfl rfl ⟨rfl, rfl, rfl, rfl, rfl⟩ rfl rfl rfl rfl rfl (by kernel_rfl) Try.func16
    (by unfold joinedFacts; with_reducible refine Bool.and_eq_true_iff.2 ⟨?_, (by as_aux_lemma => kernel_rfl)⟩; with_reducible refine Bool.and_eq_true_iff.2 ⟨?_, (by as_aux_lemma => kernel_rfl)⟩; with_reducible refine Bool.and_eq_true_iff.2 ⟨?_, (by as_aux_lemma => kernel_rfl)⟩; with_reducible refine Bool.and_eq_true_iff.2 ⟨?_, (by as_aux_lemma => kernel_rfl)⟩; with_reducible refine Bool.and_eq_true_iff.2 ⟨?_, (by with_unfolding_all exact shutMake)⟩; with_reducible refine Bool.and_eq_true_iff.2 ⟨?_, (by with_unfolding_all exact shutLifts)⟩; with_reducible refine Bool.and_eq_true_iff.2 ⟨?_, shutEnter⟩; (repeat (with_reducible refine Bool.and_eq_true_iff.2 ⟨?_, (by as_aux_lemma => kernel_rfl)⟩)); as_aux_lemma => kernel_rfl)
    (of_decide_eq_true (by kernel_rfl)) (by unfold Func.isWrapper; first | (rw [if_pos (by decide +kernel)]; kernel_rfl) | (rw [if_neg (by decide +kernel)]; exact ⟨rfl, rfl⟩))
    (fun os started H enc _ => lifted_FnExactSpanHas os started H enc)
end Go.Proofs.Ytmifhkhanjiklaa
