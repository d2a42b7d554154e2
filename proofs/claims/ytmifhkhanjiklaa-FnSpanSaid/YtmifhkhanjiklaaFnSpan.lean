/-
  FnSpan: for every argument the law of the span of an exchange returns true and writes nothing that was there. No condition.
-/
import Derived.Test.YtmifhkhanjiklaaDrawTim
import Derived.Test.YtmifhkhanjiklaaImp15b
import Derived.Test.YtmifhkhanjiklaaTimLaws
import Derived.Test.YtmifhkhanjiklaaShut
import Derived.Lib.QuietBelow
namespace Go.Proofs.Ytmifhkhanjiklaa
open Go.RowKit Go.ChangeShapes Go.WideShapes Go.ChangeAt

set_option maxRecDepth 100000 in
set_option maxHeartbeats 8000000 in
theorem walk_FnSpan {A : Option Addr} {n c : Nat} {zs : List Int} {w : World} (h : Has w A n (ints .u8 zs)) (hwf : ∀ z ∈ zs, (Lit.int .u8 z).wf = true) (hc : n ≤ c ∧ c ≤ maxLen) :
    Calls Try.prog 5 #[.slice A n c] w fun e w' => e = .returned (.bool true) ∧ Below w.heap.size w w' := by
  have hu : U8s zs := fun z hz => u8_of_wf (hwf z hz)
  clear hwf
  by_cases hn : n ≤ 1048576
  rotate_left
  · go_enter Try.func5, Try.ntmps5
    go_wp2
    go_ret
    exact ⟨rfl, Below.refl _ _⟩
  go_enter Try.func5, Try.ntmps5
  go_wp2_with (fail)
  refine (drawSpanOf_any h hu hc).mono ?_
  rintro e w1 ⟨x, y, z, u, rfl, B1⟩
  have S1 : w.heap.size ≤ w1.heap.size := B1.size
  have C1 := B1
  obtain ⟨w2, hw2⟩ : ∃ W, w1.alloc (.cells #[.int .i64 x, .int .i64 y, .int .i64 z, .int .i64 u] 26) = W := ⟨_, rfl⟩
  have B2 : Below w1.heap.size w1 w2 := hw2 ▸ below_allocQ w1 _
  have X_2 : QRow w2 w1.heap.size 26 x y z u := hw2 ▸ qRow_alloc w1 _ _ _ _ _
  have S2 : w1.heap.size ≤ w2.heap.size := B2.size
  have C2 := bel_trans C1 B2
  obtain ⟨⟨p, r⟩, hs⟩ : ∃ R, spanI (x, y, z, u) = R := ⟨_, rfl⟩
  obtain ⟨ok, hok⟩ : ∃ R, decide (exOk (x, y, z, u)) = R := ⟨_, rfl⟩
  have HS := Lib.hid hs
  have HOK := Lib.hid hok
  have tb := tw_bound (x, y, z, u)
  have wb := way_bound (x, y, z, u)
  obtain ⟨a, ha⟩ : ∃ v, twI (x, y, z, u) = v := ⟨_, rfl⟩
  obtain ⟨b, hb⟩ : ∃ v, wayI (x, y, z, u) = v := ⟨_, rfl⟩
  rw [ha] at tb
  rw [hb] at wb
  have HA := Lib.hid ha
  have HB := Lib.hid hb
  have bB : (ok != ok) = false := by simp
  have bC : (a != a) = false := by simp
  have bD : (b != b) = false := by simp
  obtain ⟨cX20, cX21, cX22, cX23⟩ := X_2.cells
  go_wp2_with (fail)
  refine (implSpanOf_r hs hok).mono ?_
  rintro e w3 ⟨rfl, B3⟩
  have S3 : w2.heap.size ≤ w3.heap.size := B3.size
  have C3 := bel_trans C2 B3
  have X_3 := X_2.bel B3
  obtain ⟨w4, hw4⟩ : ∃ W, w3.alloc (.cells #[.int .i64 p, .int .i64 r] 30) = W := ⟨_, rfl⟩
  have B4 : Below w3.heap.size w3 w4 := hw4 ▸ below_allocQ w3 _
  have P_4 : DRow w4 w3.heap.size 30 p r := hw4 ▸ dRow_alloc w3 _ _ _
  have S4 : w3.heap.size ≤ w4.heap.size := B4.size
  have C4 := bel_trans C3 B4
  have X_4 := X_3.bel B4
  obtain ⟨cX40, cX41, cX42, cX43⟩ := X_4.cells
  go_wp2_with (fail)
  refine (specSpanOf_r hs hok).mono ?_
  rintro e w5 ⟨rfl, B5⟩
  have S5 : w4.heap.size ≤ w5.heap.size := B5.size
  have C5 := bel_trans C4 B5
  have X_5 := X_4.bel B5
  have P_5 := P_4.bel B5
  obtain ⟨w6, hw6⟩ : ∃ W, w5.alloc (.cells #[.int .i64 p, .int .i64 r] 30) = W := ⟨_, rfl⟩
  have B6 : Below w5.heap.size w5 w6 := hw6 ▸ below_allocQ w5 _
  have Q_6 : DRow w6 w5.heap.size 30 p r := hw6 ▸ dRow_alloc w5 _ _ _
  have S6 : w5.heap.size ≤ w6.heap.size := B6.size
  have C6 := bel_trans C5 B6
  have X_6 := X_5.bel B6
  have P_6 := P_5.bel B6
  have rgX60 := cell_regrown (X_6.cells.1)
  have rgX61 := cell_regrown (X_6.cells.2.1)
  have rgX62 := cell_regrown (X_6.cells.2.2.1)
  have rgX63 := cell_regrown (X_6.cells.2.2.2)
  have rgP60 := cell_regrown (P_6.cells.1)
  have rgP61 := cell_regrown (P_6.cells.2)
  have rgQ60 := cell_regrown (Q_6.cells.1)
  have rgQ61 := cell_regrown (Q_6.cells.2)
  have cR1 := fun d os => Calls.regrown_of (d := d) (os := os) (w := w6) (implTwiceAhead_r ha)
  have cR2 := fun d os => Calls.regrown_of (d := d) (os := os) (w := w6) (specTwiceAhead_r ha)
  have cR3 := fun d os => Calls.regrown_of (d := d) (os := os) (w := w6) (implWayOf_r hb)
  have cR4 := fun d os => Calls.regrown_of (d := d) (os := os) (w := w6) (specWayOf_r hb)
  have cR5 := fun d os => Calls.regrown_of (d := d) (os := os) (w := w6) (implExchangeValid_b hok)
  have cR6 := fun d os => Calls.regrown_of (d := d) (os := os) (w := w6) (specExchangeValid_b hok)
  have GE := guard_sp15
  have SE := same_sp p r
  clear ha hb hs hok
  go_wp2
  refine wp_region_quiet_below (by kernel_rfl) (by kernel_rfl) ?_
  repeat ((with_reducible refine wpQuiet_step (fun K hK => ?_)); go_simp; first | (with_reducible refine hK _ ?_; clear hK K) | (rw [if_neg (by intro hh; cases hh)]; (with_reducible refine hK _ ?_); clear hK K) | ((apply Exists.intro); (with_reducible refine ⟨fun _ => ?_, hK _ ?_⟩); (first | (with_reducible exact cR1 _ _) | (with_reducible exact cR2 _ _) | (with_reducible exact cR3 _ _) | (with_reducible exact cR4 _ _) | (with_reducible exact cR5 _ _) | (with_reducible exact cR6 _ _)); clear hK K))
  (with_reducible refine wpQuiet_nil ?_)
  intro w7 hw'
  obtain ⟨⟨dq, osq⟩, hw''⟩ := hw'
  have B7 : Below w6.heap.size w6 w7 := hw'' ▸ below_regrown w6 dq osq
  clear hw''
  have S7 : w6.heap.size ≤ w7.heap.size := B7.size
  have C7 := bel_trans C6 B7
  have X_7 := X_6.bel B7
  have P_7 := P_6.bel B7
  have Q_7 := Q_6.bel B7
  clear cR1 cR2 cR3 cR4 cR5 cR6 GE SE
  cases ok with
  | false =>
    go_wp2
    refine wp_region_quiet_below (by kernel_rfl) (by kernel_rfl) ?_
    repeat ((with_reducible refine wpQuiet_step (fun K hK => ?_)); go_simp; first | (with_reducible refine hK _ ?_; clear hK K) | (rw [if_neg (by intro hh; cases hh)]; (with_reducible refine hK _ ?_); clear hK K) | ((apply Exists.intro); (with_reducible refine ⟨fun _ => ?_, hK _ ?_⟩); (fail); clear hK K))
    (with_reducible refine wpQuiet_nil ?_)
    intro w8 hw'
    obtain ⟨⟨dq, osq⟩, hw''⟩ := hw'
    have B8 : Below w7.heap.size w7 w8 := hw'' ▸ below_regrown w7 dq osq
    clear hw''
    have S8 : w7.heap.size ≤ w8.heap.size := B8.size
    have C8 := bel_trans C7 B8
    have X_8 := X_7.bel B8
    have P_8 := P_7.bel B8
    have Q_8 := Q_7.bel B8
    go_wp2
    go_ret
    exact ⟨rfl, C8⟩
  | true =>
    have hex : exOk (x, y, z, u) := of_decide_eq_true HOK.out
    have hs1 : (a - b, a + b) = (p, r) := by
      have h1 := HS.out
      unfold spanI at h1
      rw [if_pos hex] at h1
      unfold spanX at h1
      rw [HA.out, HB.out] at h1
      exact h1
    injection hs1 with e1 e2
    have hhs := (span_ok hex).2
    have hpr : spanX (x, y, z, u) = (p, r) := by unfold spanX; rw [HA.out, HB.out, e1, e2]
    rw [hpr, HA.out] at hhs
    obtain ⟨d1, hd1⟩ : ∃ v, r - p = v := ⟨_, rfl⟩
    obtain ⟨d2, hd2⟩ : ∃ v, r + p = v := ⟨_, rfl⟩
    have v1 : IntKind.i64.wrap (r - p) = d1 := by rw [hd1]; exact IntWalk.i64_in _ (by omega)
    have v2 : IntKind.i64.wrap (r + p) = d2 := by rw [hd2]; exact IntWalk.i64_in _ (by omega)
    have v3 : IntKind.i64.wrap (2 * b) = d1 := by rw [show 2 * b = d1 by omega]; exact IntWalk.i64_in _ (by omega)
    have v4 : IntKind.i64.wrap (2 * a) = d2 := by rw [show 2 * a = d2 by omega]; exact IntWalk.i64_in _ (by omega)
    have rgX70 := cell_regrown (X_7.cells.1)
    have rgX71 := cell_regrown (X_7.cells.2.1)
    have rgX72 := cell_regrown (X_7.cells.2.2.1)
    have rgX73 := cell_regrown (X_7.cells.2.2.2)
    have rgP70 := cell_regrown (P_7.cells.1)
    have rgP71 := cell_regrown (P_7.cells.2)
    have cS1 := fun d os => Calls.regrown_of (d := d) (os := os) (w := w7) (implTwiceAhead_r HA.out)
    have cS3 := fun d os => Calls.regrown_of (d := d) (os := os) (w := w7) (implWayOf_r HB.out)
    have cS5 := fun d os => Calls.regrown_of (d := d) (os := os) (w := w7) (implSpanHas_b (decide_eq_true hhs))
    clear hex e1 e2 hhs hpr hd1 hd2 tb wb
    go_wp2
    refine wp_region_quiet_below (by kernel_rfl) (by kernel_rfl) ?_
    repeat ((with_reducible refine wpQuiet_step (fun K hK => ?_)); go_simp; first | (with_reducible refine hK _ ?_; clear hK K) | (rw [if_neg (by intro hh; cases hh)]; (with_reducible refine hK _ ?_); clear hK K) | ((apply Exists.intro); (with_reducible refine ⟨fun _ => ?_, hK _ ?_⟩); (first | (with_reducible exact cS1 _ _) | (with_reducible exact cS3 _ _) | (with_reducible exact cS5 _ _)); clear hK K))
    (with_reducible refine wpQuiet_nil ?_)
    intro w8 hw'
    obtain ⟨⟨dq, osq⟩, hw''⟩ := hw'
    have B8 : Below w7.heap.size w7 w8 := hw'' ▸ below_regrown w7 dq osq
    clear hw''
    have S8 : w7.heap.size ≤ w8.heap.size := B8.size
    have C8 := bel_trans C7 B8
    have X_8 := X_7.bel B8
    have P_8 := P_7.bel B8
    have Q_8 := Q_7.bel B8
    go_wp2
    go_ret
    exact ⟨rfl, C8⟩
set_option maxRecDepth 100000 in
theorem lifted_FnSpan (os : Os) (started : os.Started) (H : Type) (enc : TypeId × Value → H) :
    ReturnsInHanded {} Try.checked os 5 .any (Rows.fnSpanSpec.pre6 enc Try.prog Try.f5 Rows.fnSpanRow.domain false) (Rows.fnSpanSpec.post enc Try.prog Try.f5 false true false false) := by
  refine returnsInHanded_of_change (C := Try.checked) (by kernel_rfl) started (by kernel_rfl) Try.func5
    (ChangeSpec.witness6 (enc := enc) (C := Try.checked) false ⟨#[], #[.slice none 0 0], []⟩ 8 (by kernel_rfl) (by kernel_rfl) (by kernel_rfl) (by kernel_rfl)) ?_
  intro W base args ds gs before hval0 hW hcnd _
  have hval : ∀ (j : Nat) t v, Try.f5.params[j]? = some t → args[j]? = some v → Value.okWide Try.prog W .any base t v := hval0
  have hW' := hW
  obtain ⟨p, q, hA0, hV, rfl, hfz, hnd⟩ := hW
  have hA : DataW.TrodAll enc Try.prog W 0 (fun _ => true) true Try.f5.params.toList args.toList ds p := hA0
  rw [Try.params5] at hA hval
  obtain ⟨v0, vs0, d0, ds0, p0, q0, hargs, rfl, rfl, h0, r0⟩ := trodAll_cons hA
  obtain ⟨rfl, rfl, rfl⟩ := trodAll_nil r0
  obtain rfl : args = #[v0] := by cases args; simp_all
  obtain ⟨rfl, rfl⟩ := trodVars_none hV
  obtain ⟨a0, len0, cap0, rfl⟩ := okWide_slice Try.underlying22 (hval 0 22 v0 rfl rfl)
  have k0 := h0
  have lt0 : ∀ x ∈ p0, x.block < W.heap.size := by obtain ⟨m, hm⟩ := k0; exact DataW.trod_lt m _ _ _ hm
  obtain ⟨z0, H0, U0, M0⟩ := has_of_trod (k := .u8) Try.underlying22 Try.underlying5 (by kernel_rfl) h0
  clear hA0 hval0
  refine (walk_FnSpan H0 U0 M0).mono fun e W' ⟨he, bel⟩ => ?_
  subst he
  exact ⟨_, rfl, _, _, _, [], _, [], hW', trodAll_mk1 (shut_bool Try.underlying4 _), (trodAll_cons_mk (Below.trod (by kernel_rfl) (by kernel_rfl) (of_decide_eq_true (by kernel_rfl)) k0 bel lt0) trodAll_mk0), rfl, bel.frame _, fun h => by cases h⟩

theorem fnSpan_holds : Rows.FnSpanSaid :=
  OpenClaim.holds_of_wide 5 Try.f5 rfl rfl rfl rfl rfl rfl rfl ⟨rfl, rfl, rfl, rfl, rfl⟩ rfl rfl rfl rfl rfl (by kernel_rfl) Try.func5
    (by unfold joinedFacts; with_reducible refine Bool.and_eq_true_iff.2 ⟨?_, (by as_aux_lemma => kernel_rfl)⟩; with_reducible refine Bool.and_eq_true_iff.2 ⟨?_, (by as_aux_lemma => kernel_rfl)⟩; with_reducible refine Bool.and_eq_true_iff.2 ⟨?_, (by as_aux_lemma => kernel_rfl)⟩; with_reducible refine Bool.and_eq_true_iff.2 ⟨?_, (by as_aux_lemma => kernel_rfl)⟩; with_reducible refine Bool.and_eq_true_iff.2 ⟨?_, (by with_unfolding_all exact shutMake)⟩; with_reducible refine Bool.and_eq_true_iff.2 ⟨?_, (by with_unfolding_all exact shutLifts)⟩; with_reducible refine Bool.and_eq_true_iff.2 ⟨?_, shutEnter⟩; (repeat (with_reducible refine Bool.and_eq_true_iff.2 ⟨?_, (by as_aux_lemma => kernel_rfl)⟩)); as_aux_lemma => kernel_rfl)
    (of_decide_eq_true (by kernel_rfl)) (by unfold Func.isWrapper; first | (rw [if_pos (by decide +kernel)]; kernel_rfl) | (rw [if_neg (by decide +kernel)]; exact ⟨rfl, rfl⟩))
    (fun os started H enc _ => lifted_FnSpan os started H enc)
end Go.Proofs.Ytmifhkhanjiklaa
