/-
  FnExactSpanOf: for every argument the exact law of SpanOf returns true and writes nothing that was there. No condition.
-/
import Derived.Test.YtmifhkhanjiklaaTimB
import Derived.Test.YtmifhkhanjiklaaImp15b
import Derived.Test.YtmifhkhanjiklaaTimLaws
import Derived.Test.YtmifhkhanjiklaaShut
namespace Go.Proofs.Ytmifhkhanjiklaa
open Go.RowKit Go.ChangeShapes Go.WideShapes Go.ChangeAt

set_option maxRecDepth 100000 in
set_option maxHeartbeats 8000000 in
theorem walk_FnExactSpanOf {x y z u : Int} {w : World} (_ : I64Q [(x, y, z, u)]) :
    Calls Try.prog 13 #[.agg #[.int .i64 x, .int .i64 y, .int .i64 z, .int .i64 u]] w fun e w' => e = .returned (.bool true) ∧ Below w.heap.size w w' := by
  obtain ⟨⟨p, q⟩, hx⟩ : ∃ R, spanI (x, y, z, u) = R := ⟨_, rfl⟩
  obtain ⟨ok, hok⟩ : ∃ R, decide (exOk (x, y, z, u)) = R := ⟨_, rfl⟩
  have bB : (ok != ok) = false := by simp
  obtain ⟨w1, hw1⟩ : ∃ W, w.alloc (.cells #[.int .i64 x, .int .i64 y, .int .i64 z, .int .i64 u] 47) = W := ⟨_, rfl⟩
  have B1 : Below w.heap.size w w1 := hw1 ▸ below_allocQ w _
  have X_1 : QRow w1 w.heap.size 47 x y z u := hw1 ▸ qRow_alloc w _ _ _ _ _
  have S1 : w.heap.size ≤ w1.heap.size := B1.size
  have C1 := B1
  obtain ⟨cX10, cX11, cX12, cX13⟩ := X_1.cells
  go_enter Try.func13, Try.ntmps13
  go_wp2_with (fail)
  refine (toExchange_any x y z u _).mono ?_
  rintro e w2 ⟨rfl, B2⟩
  have S2 : w1.heap.size ≤ w2.heap.size := B2.size
  have C2 := bel_trans C1 B2
  have X_2 := X_1.bel B2
  go_wp2_with (fail)
  refine (specSpanOf_r hx hok).mono ?_
  rintro e w3 ⟨rfl, B3⟩
  have S3 : w2.heap.size ≤ w3.heap.size := B3.size
  have C3 := bel_trans C2 B3
  have X_3 := X_2.bel B3
  obtain ⟨w4, hw4⟩ : ∃ W, w3.alloc (.cells #[.int .i64 p, .int .i64 q] 30) = W := ⟨_, rfl⟩
  have B4 : Below w3.heap.size w3 w4 := hw4 ▸ below_allocQ w3 _
  have P_4 : DRow w4 w3.heap.size 30 p q := hw4 ▸ dRow_alloc w3 _ _ _
  have S4 : w3.heap.size ≤ w4.heap.size := B4.size
  have C4 := bel_trans C3 B4
  have X_4 := X_3.bel B4
  obtain ⟨cX40, cX41, cX42, cX43⟩ := X_4.cells
  go_wp2_with (fail)
  refine (toExchange_any x y z u _).mono ?_
  rintro e w5 ⟨rfl, B5⟩
  have S5 : w4.heap.size ≤ w5.heap.size := B5.size
  have C5 := bel_trans C4 B5
  have X_5 := X_4.bel B5
  have P_5 := P_4.bel B5
  go_wp2_with (fail)
  refine (implSpanOf_r hx hok).mono ?_
  rintro e w6 ⟨rfl, B6⟩
  have S6 : w5.heap.size ≤ w6.heap.size := B6.size
  have C6 := bel_trans C5 B6
  have X_6 := X_5.bel B6
  have P_6 := P_5.bel B6
  obtain ⟨w7, hw7⟩ : ∃ W, w6.alloc (.cells #[.int .i64 p, .int .i64 q] 30) = W := ⟨_, rfl⟩
  have B7 : Below w6.heap.size w6 w7 := hw7 ▸ below_allocQ w6 _
  have Q_7 : DRow w7 w6.heap.size 30 p q := hw7 ▸ dRow_alloc w6 _ _ _
  have S7 : w6.heap.size ≤ w7.heap.size := B7.size
  have C7 := bel_trans C6 B7
  have X_7 := X_6.bel B7
  have P_7 := P_6.bel B7
  obtain ⟨cP70, cP71⟩ := P_7.cells
  obtain ⟨cQ70, cQ71⟩ := Q_7.cells
  go_wp2_with (fail)
  refine (eqSpan_any p q _).mono ?_
  rintro e w8 ⟨rfl, B8⟩
  have S8 : w7.heap.size ≤ w8.heap.size := B8.size
  have C8 := bel_trans C7 B8
  have X_8 := X_7.bel B8
  have P_8 := P_7.bel B8
  have Q_8 := Q_7.bel B8
  go_wp2
  go_ret
  exact ⟨rfl, C8⟩
set_option maxRecDepth 100000 in
theorem lifted_FnExactSpanOf (os : Os) (started : os.Started) (H : Type) (enc : TypeId × Value → H) :
    ReturnsInHanded {} Try.checked os 13 .any (Rows.fnExactSpanOfSpec.pre6 enc Try.prog Try.f13 Rows.fnExactSpanOfRow.domain false) (Rows.fnExactSpanOfSpec.post enc Try.prog Try.f13 false true false false) := by
  refine returnsInHanded_of_change (C := Try.checked) (by kernel_rfl) started (by kernel_rfl) Try.func13
    (ChangeSpec.witness6 (enc := enc) (C := Try.checked) false ⟨#[], #[.agg #[.int .i64 0, .int .i64 0, .int .i64 0, .int .i64 0]], []⟩ 8 (by kernel_rfl) (by kernel_rfl) (by kernel_rfl) (by kernel_rfl)) ?_
  intro W base args ds gs before hval0 hW hcnd _
  have hval : ∀ (j : Nat) t v, Try.f13.params[j]? = some t → args[j]? = some v → Value.okWide Try.prog W .any base t v := hval0
  have hW' := hW
  obtain ⟨p, q, hA0, hV, rfl, hfz, hnd⟩ := hW
  have hA : DataW.TrodAll enc Try.prog W 0 (fun _ => true) true Try.f13.params.toList args.toList ds p := hA0
  rw [Try.params13] at hA hval
  obtain ⟨v0, vs0, d0, ds0, p0, q0, hargs, rfl, rfl, h0, r0⟩ := trodAll_cons hA
  obtain ⟨rfl, rfl, rfl⟩ := trodAll_nil r0
  obtain rfl : args = #[v0] := by cases args; simp_all
  obtain ⟨rfl, rfl⟩ := trodVars_none hV
  obtain ⟨x0, y0, s0, u0, xd0, yd0, sd0, ud0, m0, rfl, rfl, rfl, xt0, yt0, st0, ut0⟩ := Go.Joins.open_agg4 Try.underlying47 (by kernel_rfl) (by kernel_rfl) (hval 0 47 v0 rfl rfl) h0
  obtain ⟨xi0, xe0, rfl, xw0⟩ := DataW.trod_int Try.underlying3 xt0
  injection xe0 with xe0 _
  subst xe0
  obtain ⟨yi0, ye0, rfl, yw0⟩ := DataW.trod_int Try.underlying3 yt0
  injection ye0 with ye0 _
  subst ye0
  obtain ⟨si0, se0, rfl, sw0⟩ := DataW.trod_int Try.underlying3 st0
  injection se0 with se0 _
  subst se0
  obtain ⟨ui0, ue0, rfl, uw0⟩ := DataW.trod_int Try.underlying3 ut0
  injection ue0 with ue0 _
  subst ue0
  have hh0 : I64Q [(xi0, yi0, si0, ui0)] := fun z hz => by rw [List.mem_singleton.1 hz]; exact ⟨i64_of_wf xw0, i64_of_wf yw0, i64_of_wf sw0, i64_of_wf uw0⟩
  clear hA0 hval0
  refine (walk_FnExactSpanOf hh0).mono fun e W' ⟨he, bel⟩ => ?_
  subst he
  exact ⟨_, rfl, _, _, _, [], _, [], hW', trodAll_mk1 (shut_bool Try.underlying4 _), (trodAll_cons_mk (Go.Joins.shut_agg4 Try.underlying47 (by kernel_rfl) (by kernel_rfl) ⟨1, trod_int_mk 0 Try.underlying3 xw0⟩ ⟨1, trod_int_mk 0 Try.underlying3 yw0⟩ ⟨1, trod_int_mk 0 Try.underlying3 sw0⟩ ⟨1, trod_int_mk 0 Try.underlying3 uw0⟩) trodAll_mk0), rfl, bel.frame _, fun h => by cases h⟩

theorem fnExactSpanOf_holds : Rows.FnExactSpanOfSaid :=
  OpenClaim.holds_of_wide 13 Try.f13 rfl rfl rfl rfl rfl rfl rfl ⟨rfl, rfl, rfl, rfl, rfl⟩ rfl rfl rfl rfl rfl (by kernel_rfl) Try.func13
    (by unfold joinedFacts; with_reducible refine Bool.and_eq_true_iff.2 ⟨?_, (by as_aux_lemma => kernel_rfl)⟩; with_reducible refine Bool.and_eq_true_iff.2 ⟨?_, (by as_aux_lemma => kernel_rfl)⟩; with_reducible refine Bool.and_eq_true_iff.2 ⟨?_, (by as_aux_lemma => kernel_rfl)⟩; with_reducible refine Bool.and_eq_true_iff.2 ⟨?_, (by as_aux_lemma => kernel_rfl)⟩; with_reducible refine Bool.and_eq_true_iff.2 ⟨?_, (by with_unfolding_all exact shutMake)⟩; with_reducible refine Bool.and_eq_true_iff.2 ⟨?_, (by with_unfolding_all exact shutLifts)⟩; with_reducible refine Bool.and_eq_true_iff.2 ⟨?_, shutEnter⟩; (repeat (with_reducible refine Bool.and_eq_true_iff.2 ⟨?_, (by as_aux_lemma => kernel_rfl)⟩)); as_aux_lemma => kernel_rfl)
    (of_decide_eq_true (by kernel_rfl)) (by unfold Func.isWrapper; first | (rw [if_pos (by decide +kernel)]; kernel_rfl) | (rw [if_neg (by decide +kernel)]; exact ⟨rfl, rfl⟩))
    (fun os started H enc _ => lifted_FnExactSpanOf os started H enc)
end Go.Proofs.Ytmifhkhanjiklaa
