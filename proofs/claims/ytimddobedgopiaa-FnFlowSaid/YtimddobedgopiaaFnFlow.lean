/-
  FnFlow: for every argument the law of flows returns true and writes nothing that was there. No condition.
-/
import Derived.Test.YtimddobedgopiaaDrawFlow
import Derived.Test.YtimddobedgopiaaImp11a
import Derived.Test.YtimddobedgopiaaShut
namespace Go.Proofs.Ytimddobedgopiaa
open Go.RowKit Go.ChangeShapes Go.WideShapes Go.ChangeAt

set_option maxRecDepth 100000 in
set_option maxHeartbeats 8000000 in
theorem walk_FnFlow {A : Option Addr} {n c : Nat} {zs : List Int} {w : World} (h : Has w A n (ints .u8 zs)) (hwf : ∀ z ∈ zs, (Lit.int .u8 z).wf = true) (hc : n ≤ c ∧ c ≤ maxLen) :
    Calls Try.prog 3 #[.slice A n c] w fun e w' => e = .returned (.bool true) ∧ Below w.heap.size w w' := by
  have hu : U8s zs := fun z hz => u8_of_wf (hwf z hz)
  clear hwf
  by_cases hn : n ≤ 1048576
  rotate_left
  · go_enter Try.func3, Try.ntmps3
    go_wp2
    go_ret
    exact ⟨rfl, Below.refl _ _⟩
  go_enter Try.func3, Try.ntmps3
  go_wp2_with (fail)
  refine (drawFlowOf_any h hu hc).mono ?_
  rintro e w1 hX
  unfold NumsF at hX
  obtain ⟨a, b, rfl, _, _, B1⟩ := hX
  obtain ⟨f, hf⟩ : ∃ f, flowI a b = f := ⟨_, rfl⟩
  have CI := Lib.hid (implFlowOf_r (w := w1) hf)
  have CS := Lib.hid (specFlowOf_r (w := w1) hf)
  have fB : (f != f) = false := by simp
  have fE : (f == f) = true := by simp
  by_cases h0 : f < 0
  · obtain rfl : f = -1 := by rw [← hf]; exact flowI_neg (by rw [hf]; exact h0)
    clear h0 hf
    go_wp2_with (go_at_call 16; refine CI.out.mono ?_; rintro e w' ⟨rfl, rfl⟩)
    refine CS.out.mono ?_
    rintro e w' ⟨rfl, rfl⟩
    go_wp2_with (fail)
    refine CS.out.mono ?_
    rintro e w' ⟨rfl, rfl⟩
    go_wp2
    go_ret
    exact ⟨rfl, B1⟩
  have h0B : decide (f < 0) = false := by simp; omega
  have hr : 0 ≤ a ∧ a ≤ 14 ∧ 0 ≤ b ∧ b ≤ 15 ∧ f = 15 * a + b % 15 := by
    unfold flowI at hf
    split at hf
    · rename_i hh; exact ⟨hh.1, hh.2.1, hh.2.2.1, hh.2.2.2, hf.symm⟩
    · omega
  have hd : Int.tdiv f 15 = a := by rw [Int.tdiv_eq_ediv_of_nonneg (by omega)]; omega
  have aE : (a == a) = true := by simp
  have f240 : decide (f < 240) = true := by simp; omega
  by_cases h15 : b = 15
  · have hm : Int.tmod f 15 = 0 := by rw [Int.tmod_eq_emod_of_nonneg (by omega)]; omega
    have b0 : ((0 : Int) == b) = false := by rw [h15]; rfl
    have b1 : (b == 15) = true := by rw [h15]; rfl
    clear h0 hf hr h15
    go_wp2_with (go_at_call 16; refine CI.out.mono ?_; rintro e w' ⟨rfl, rfl⟩)
    refine CS.out.mono ?_
    rintro e w' ⟨rfl, rfl⟩
    go_wp2
    go_ret
    exact ⟨rfl, B1⟩
  · have hm : Int.tmod f 15 = b := by rw [Int.tmod_eq_emod_of_nonneg (by omega)]; omega
    have b0 : (b == b) = true := by simp
    clear h0 hf hr h15
    go_wp2_with (go_at_call 16; refine CI.out.mono ?_; rintro e w' ⟨rfl, rfl⟩)
    refine CS.out.mono ?_
    rintro e w' ⟨rfl, rfl⟩
    go_wp2
    go_ret
    exact ⟨rfl, B1⟩
set_option maxRecDepth 100000 in
theorem lifted_FnFlow (os : Os) (started : os.Started) (H : Type) (enc : TypeId × Value → H) :
    ReturnsInHanded {} Try.checked os 3 .any (Rows.fnFlowSpec.pre6 enc Try.prog Try.f3 Rows.fnFlowRow.domain false) (Rows.fnFlowSpec.post enc Try.prog Try.f3 false true false false) := by
  refine returnsInHanded_of_change (C := Try.checked) (by kernel_rfl) started (by kernel_rfl) Try.func3
    (ChangeSpec.witness6 (enc := enc) (C := Try.checked) false ⟨#[], #[.slice none 0 0], []⟩ 8 (by kernel_rfl) (by kernel_rfl) (by kernel_rfl) (by kernel_rfl)) ?_
  intro W base args ds gs before hval0 hW hcnd _
  have hval : ∀ (j : Nat) t v, Try.f3.params[j]? = some t → args[j]? = some v → Value.okWide Try.prog W .any base t v := hval0
  have hW' := hW
  obtain ⟨p, q, hA0, hV, rfl, hfz, hnd⟩ := hW
  have hA : DataW.TrodAll enc Try.prog W 0 (fun _ => true) true Try.f3.params.toList args.toList ds p := hA0
  rw [Try.params3] at hA hval
  obtain ⟨v0, vs0, d0, ds0, p0, q0, hargs, rfl, rfl, h0, r0⟩ := trodAll_cons hA
  obtain ⟨rfl, rfl, rfl⟩ := trodAll_nil r0
  obtain rfl : args = #[v0] := by cases args; simp_all
  obtain ⟨rfl, rfl⟩ := trodVars_none hV
  obtain ⟨a0, len0, cap0, rfl⟩ := okWide_slice Try.underlying22 (hval 0 22 v0 rfl rfl)
  have k0 := h0
  have lt0 : ∀ x ∈ p0, x.block < W.heap.size := by obtain ⟨m, hm⟩ := k0; exact DataW.trod_lt m _ _ _ hm
  obtain ⟨z0, H0, U0, M0⟩ := has_of_trod (k := .u8) Try.underlying22 Try.underlying5 (by kernel_rfl) h0
  clear hA0 hval0
  refine (walk_FnFlow H0 U0 M0).mono fun e W' ⟨he, bel⟩ => ?_
  subst he
  exact ⟨_, rfl, _, _, _, [], _, [], hW', trodAll_mk1 (shut_bool Try.underlying4 _), (trodAll_cons_mk (Below.trod (by kernel_rfl) (by kernel_rfl) (of_decide_eq_true (by kernel_rfl)) k0 bel lt0) trodAll_mk0), rfl, bel.frame _, fun h => by cases h⟩

theorem fnFlow_holds : Rows.FnFlowSaid :=
  OpenClaim.holds_of_wide 3 Try.f3 rfl rfl rfl rfl rfl rfl rfl ⟨rfl, rfl, rfl, rfl, rfl⟩ rfl rfl rfl rfl rfl (by kernel_rfl) Try.func3
    (by unfold joinedFacts; with_reducible refine Bool.and_eq_true_iff.2 ⟨?_, (by as_aux_lemma => kernel_rfl)⟩; with_reducible refine Bool.and_eq_true_iff.2 ⟨?_, (by as_aux_lemma => kernel_rfl)⟩; with_reducible refine Bool.and_eq_true_iff.2 ⟨?_, (by as_aux_lemma => kernel_rfl)⟩; with_reducible refine Bool.and_eq_true_iff.2 ⟨?_, (by as_aux_lemma => kernel_rfl)⟩; with_reducible refine Bool.and_eq_true_iff.2 ⟨?_, (by with_unfolding_all exact shutMake)⟩; with_reducible refine Bool.and_eq_true_iff.2 ⟨?_, (by with_unfolding_all exact shutLifts)⟩; with_reducible refine Bool.and_eq_true_iff.2 ⟨?_, shutEnter⟩; (repeat (with_reducible refine Bool.and_eq_true_iff.2 ⟨?_, (by as_aux_lemma => kernel_rfl)⟩)); as_aux_lemma => kernel_rfl)
    (of_decide_eq_true (by kernel_rfl)) (by unfold Func.isWrapper; first | (rw [if_pos (by decide +kernel)]; kernel_rfl) | (rw [if_neg (by decide +kernel)]; exact ⟨rfl, rfl⟩))
    (fun os started H enc _ => lifted_FnFlow os started H enc)
end Go.Proofs.Ytimddobedgopiaa
