/-
  FnExactFirstClaims: for every argument the exact law of FirstClaims returns true and writes nothing that was there. No condition.
-/
import Derived.Test.YtkmdpmhaljieaaaImp7h
import Derived.Test.YtkmdpmhaljieaaaCabF
import Derived.Test.YtkmdpmhaljieaaaListLawsI
import Derived.Test.YtkmdpmhaljieaaaShut
namespace Go.Proofs.Ytkmdpmhaljieaaa
open Go.RowKit Go.ChangeShapes Go.WideShapes Go.ChangeAt

set_option maxHeartbeats 16000000 in
set_option maxRecDepth 100000 in
theorem walk_FnExactFirstClaims {a0 : Int} {w : World} (hb0 : -9223372036854775808 ≤ a0 ∧ a0 ≤ 9223372036854775807) :
    Calls Try.prog 15 #[.int .i64 a0] w fun e w' => e = .returned (.bool true) ∧ Below w.heap.size w w' := by
  have hT := firstI_told a0
  have L3 := Lib.hid hT.lens
  have LS : sumLenI (firstI a0) = 4 * (firstI a0).length := sum4 _ hT.2
  have LL := hT.1
  clear hT
  go_enter Try.func15, Try.ntmps15
  go_wp2_with (fail)
  refine (specFirstClaims_w hb0).mono ?_
  rintro e w1 ⟨AW, nW, cW, rfl, ⟨vW, W⟩, B1⟩
  have S1 : w.heap.size ≤ w1.heap.size := B1.size
  have C1 := B1
  have bW : ∀ i, InL AW vW i → w.heap.size ≤ i ∧ i < w1.heap.size := fun i hi => W.bounds hi
  have hnW : nW ≤ 8 := by have q1 := W.has.len; omega
  go_wp2_with (fail)
  refine (implFirstClaims_w).mono ?_
  rintro e w2 ⟨AG, nG, cG, rfl, ⟨vG, G⟩, B2⟩
  have S2 : w1.heap.size ≤ w2.heap.size := B2.size
  have C2 := bel_trans C1 B2
  have W_2 := W.bel B2
  have bG : ∀ i, InL AG vG i → w1.heap.size ≤ i ∧ i < w2.heap.size := fun i hi => G.bounds hi
  have hnG : nG ≤ 8 := by have q1 := G.has.len; omega
  go_wp2_with (fail)
  refine (eqIntSS_b G.has W_2.has (by omega) L3.out).mono ?_
  rintro e w3 ⟨rfl, B3⟩
  have S3 : w2.heap.size ≤ w3.heap.size := B3.size
  have C3 := bel_trans C2 B3
  have W_3 := W_2.bel B3
  have G_3 := G.bel B3
  go_wp2_with (fail)
  refine (markIntSS_any G_3 (K := 1) (by omega) L3.out (by omega)).mono ?_
  rintro e w4 ⟨rfl, Gm, T4⟩
  have S4 : w3.heap.size ≤ w4.heap.size := T4.2.2.2.1
  have C4 : Below w.heap.size w w4 := C3.trans (T4.below (by omega) (fun v hv b hb => by have := bG b (.inr ⟨v, hv, hb⟩); omega))
  have W_4 := W_3.heapEq (w' := w4) (fun i hi => T4.2.2.2.2 _ (by have := bW i hi; omega) (fun v hv hb => by have h1 := bW i hi; have h2 := bG i (.inr ⟨v, hv, hb⟩); omega))
  go_wp2_with (fail)
  refine (heldIntSS_any (K := 1) Gm.has (by omega) L3.out (by omega)).mono ?_
  rintro e w' ⟨rfl, rfl⟩
  go_wp2_with (fail)
  refine (implFirstClaims_w).mono ?_
  rintro e w5 ⟨AH, nH, cH, rfl, ⟨vH, H⟩, B5⟩
  have S5 : w4.heap.size ≤ w5.heap.size := B5.size
  have C5 := bel_trans C4 B5
  have W_5 := W_4.bel B5
  have G_5 := Gm.bel B5
  have bH : ∀ i, InL AH vH i → w4.heap.size ≤ i ∧ i < w5.heap.size := fun i hi => H.bounds hi
  have hnH : nH ≤ 8 := by have q1 := H.has.len; omega
  go_wp2_with (fail)
  refine (eqIntSS_b H.has W_5.has (by omega) L3.out).mono ?_
  rintro e w6 ⟨rfl, B6⟩
  have S6 : w5.heap.size ≤ w6.heap.size := B6.size
  have C6 := bel_trans C5 B6
  have W_6 := W_5.bel B6
  have G_6 := G_5.bel B6
  have H_6 := H.bel B6
  go_wp2_with (fail)
  refine (heldIntSS_any (K := 1) G_6.has (by omega) L3.out (by omega)).mono ?_
  rintro e w' ⟨rfl, rfl⟩
  go_wp2
  go_ret
  exact ⟨rfl, C6⟩
set_option maxRecDepth 100000 in
theorem lifted_FnExactFirstClaims (os : Os) (started : os.Started) (H : Type) (enc : TypeId × Value → H) :
    ReturnsInHanded {} Try.checked os 15 .any (Rows.fnExactFirstClaimsSpec.pre6 enc Try.prog Try.f15 Rows.fnExactFirstClaimsRow.domain false) (Rows.fnExactFirstClaimsSpec.post enc Try.prog Try.f15 false true false false) := by
  refine returnsInHanded_of_change (C := Try.checked) (by kernel_rfl) started (by kernel_rfl) Try.func15
    (ChangeSpec.witness6 (enc := enc) (C := Try.checked) false ⟨#[], #[.int .i64 0], []⟩ 8 (by kernel_rfl) (by kernel_rfl) (by kernel_rfl) (by kernel_rfl)) ?_
  intro W base args ds gs before hval0 hW hcnd _
  have hval : ∀ (j : Nat) t v, Try.f15.params[j]? = some t → args[j]? = some v → Value.okWide Try.prog W .any base t v := hval0
  have hW' := hW
  obtain ⟨p, q, hA0, hV, rfl, hfz, hnd⟩ := hW
  have hA : DataW.TrodAll enc Try.prog W 0 (fun _ => true) true Try.f15.params.toList args.toList ds p := hA0
  rw [Try.params15] at hA hval
  obtain ⟨v0, vs0, d0, ds0, p0, q0, hargs, rfl, rfl, h0, r0⟩ := trodAll_cons hA
  obtain ⟨rfl, rfl, rfl⟩ := trodAll_nil r0
  obtain rfl : args = #[v0] := by cases args; simp_all
  obtain ⟨rfl, rfl⟩ := trodVars_none hV
  obtain ⟨a0, rfl, rfl, rfl, w0⟩ := open_int Try.underlying3 (hval 0 3 v0 rfl rfl) h0
  have b0 := i64_of_wf w0
  clear hA0 hval0
  refine (walk_FnExactFirstClaims b0).mono fun e W' ⟨he, bel⟩ => ?_
  subst he
  exact ⟨_, rfl, _, _, _, [], _, [], hW', trodAll_mk1 (shut_bool Try.underlying4 _), (trodAll_cons_mk (shut_int Try.underlying3 w0) trodAll_mk0), rfl, bel.frame _, fun h => by cases h⟩

theorem fnExactFirstClaims_holds : Rows.FnExactFirstClaimsSaid :=
  OpenClaim.holds_of_wide 15 Try.f15 rfl rfl rfl rfl rfl rfl rfl ⟨rfl, rfl, rfl, rfl, rfl⟩ rfl rfl rfl rfl rfl (by kernel_rfl) Try.func15
    (by unfold joinedFacts; with_reducible refine Bool.and_eq_true_iff.2 ⟨?_, (by as_aux_lemma => kernel_rfl)⟩; with_reducible refine Bool.and_eq_true_iff.2 ⟨?_, (by as_aux_lemma => kernel_rfl)⟩; with_reducible refine Bool.and_eq_true_iff.2 ⟨?_, (by as_aux_lemma => kernel_rfl)⟩; with_reducible refine Bool.and_eq_true_iff.2 ⟨?_, (by as_aux_lemma => kernel_rfl)⟩; with_reducible refine Bool.and_eq_true_iff.2 ⟨?_, (by with_unfolding_all exact shutMake)⟩; with_reducible refine Bool.and_eq_true_iff.2 ⟨?_, (by with_unfolding_all exact shutLifts)⟩; with_reducible refine Bool.and_eq_true_iff.2 ⟨?_, shutEnter⟩; (repeat (with_reducible refine Bool.and_eq_true_iff.2 ⟨?_, (by as_aux_lemma => kernel_rfl)⟩)); as_aux_lemma => kernel_rfl)
    (of_decide_eq_true (by kernel_rfl)) (by unfold Func.isWrapper; first | (rw [if_pos (by decide +kernel)]; kernel_rfl) | (rw [if_neg (by decide +kernel)]; exact ⟨rfl, rfl⟩))
    (fun os started H enc _ => lifted_FnExactFirstClaims os started H enc)
end Go.Proofs.Ytkmdpmhaljieaaa
