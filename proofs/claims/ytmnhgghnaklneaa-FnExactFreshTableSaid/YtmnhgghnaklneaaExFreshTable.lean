/-
  FnExactFreshTable: for every argument the exact law of FreshTable returns true and writes nothing that was there. No condition.
-/
import Derived.Test.YtmnhgghnaklneaaImp6
namespace Go.Proofs.Ytmnhgghnaklneaa
open Go.RowKit Go.ChangeShapes Go.WideShapes Go.ChangeAt

set_option maxHeartbeats 2000000 in
theorem walk_FnExactFreshTable  {w : World}  :
    Calls Try.prog 9 #[] w fun e w' => e = .returned (.bool true) ∧ Below w.heap.size w w' := by
  have B0 : Below w.heap.size w w := Below.refl _ _
  go_enter Try.func9, Try.ntmps9
  go_wp2_with (fail)
  refine (specFreshTable_any ).mono ?_
  rintro e w1 ⟨AW, nW, cW, rfl, O1, B1⟩
  have S1 : w.heap.size ≤ w1.heap.size := B1.size
  have C1 := bel_trans B0 B1
  have hnW : nW ≤ 15 := by have q1 := O1.has.len; have q2 := fresh_len; omega
  go_wp2_with (fail)
  refine (implFreshTable_any ).mono ?_
  rintro e w2 ⟨AG, nG, cG, rfl, O2, B2⟩
  have S2 : w1.heap.size ≤ w2.heap.size := B2.size
  have C2 := bel_trans C1 B2
  have W_2 := O1.bel B2
  have hnG : nG ≤ 15 := by have q1 := O2.has.len; have q2 := fresh_len; omega
  go_wp2_with (fail)
  refine (eqIntS_b O2.has W_2.has (by omega)).mono ?_
  rintro e w3 ⟨rfl, B3⟩
  have S3 : w2.heap.size ≤ w3.heap.size := B3.size
  have C3 := bel_trans C2 B3
  have W_3 := W_2.bel B3
  have G_3 := O2.bel B3
  go_wp2_with (fail)
  refine (markIntS_any G_3 (K := 1) (by omega) (by omega)).mono ?_
  rintro e w4 ⟨rfl, G_4, M4⟩
  have S4 : w3.heap.size ≤ w4.heap.size := M4.size
  have C4 := bel_grown C3 M4 (O2.ge (by omega))
  have W_4 := W_3.earlier (z := w1) O1.lt (O2.ge (by omega)) M4
  go_wp2_with (fail)
  refine (heldIntS_any G_4.has (by omega) (by omega)).mono ?_
  rintro e w5 ⟨rfl, rfl⟩
  go_wp2_with (fail)
  refine (implFreshTable_any ).mono ?_
  rintro e w5 ⟨AH, nH, cH, rfl, O5, B5⟩
  have S5 : w4.heap.size ≤ w5.heap.size := B5.size
  have C5 := bel_trans C4 B5
  have W_5 := W_4.bel B5
  have G_5 := G_4.bel B5
  have hnH : nH ≤ 15 := by have q1 := O5.has.len; have q2 := fresh_len; omega
  go_wp2_with (fail)
  refine (eqIntS_b O5.has W_5.has (by omega)).mono ?_
  rintro e w6 ⟨rfl, B6⟩
  have S6 : w5.heap.size ≤ w6.heap.size := B6.size
  have C6 := bel_trans C5 B6
  have W_6 := W_5.bel B6
  have G_6 := G_5.bel B6
  have H_6 := O5.bel B6
  go_wp2_with (fail)
  refine (heldIntS_any G_6.has (by omega) (by omega)).mono ?_
  rintro e w7 ⟨rfl, rfl⟩
  go_wp2
  go_ret
  exact ⟨rfl, C6⟩
set_option maxRecDepth 100000 in
theorem lifted_FnExactFreshTable (os : Os) (started : os.Started) (H : Type) (enc : TypeId × Value → H) :
    ReturnsInHanded {} Try.checked os 9 .any (Rows.fnExactFreshTableSpec.pre6 enc Try.prog Try.f9 Rows.fnExactFreshTableRow.domain false) (Rows.fnExactFreshTableSpec.post enc Try.prog Try.f9 false true false false) := by
  refine returnsInHanded_of_change (C := Try.checked) (by kernel_rfl) started (by kernel_rfl) Try.func9
    (ChangeSpec.witness6 (enc := enc) (C := Try.checked) false ⟨#[], #[], []⟩ 8 (by kernel_rfl) (by kernel_rfl) (by kernel_rfl) (by kernel_rfl)) ?_
  intro W base args ds gs before hval0 hW hcnd _
  have hval : ∀ (j : Nat) t v, Try.f9.params[j]? = some t → args[j]? = some v → Value.okWide Try.prog W .any base t v := hval0
  have hW' := hW
  obtain ⟨p, q, hA0, hV, rfl, hfz, hnd⟩ := hW
  have hA : DataW.TrodAll enc Try.prog W 0 (fun _ => true) true Try.f9.params.toList args.toList ds p := hA0
  rw [Try.params9] at hA hval
  obtain ⟨hargs, rfl, rfl⟩ := trodAll_nil hA
  obtain rfl : args = #[] := by cases args; simp_all
  obtain ⟨rfl, rfl⟩ := trodVars_none hV
  clear hA0 hval0
  refine (walk_FnExactFreshTable ).mono fun e W' ⟨he, bel⟩ => ?_
  subst he
  exact ⟨_, rfl, _, _, _, [], _, [], hW', trodAll_mk1 (shut_bool Try.underlying4 _), trodAll_mk0, rfl, bel.frame _, fun h => by cases h⟩

theorem fnExactFreshTable_holds : Rows.FnExactFreshTableSaid :=
  OpenClaim.holds_of_wide 9 Try.f9 rfl rfl rfl rfl rfl rfl rfl ⟨rfl, rfl, rfl, rfl, rfl⟩ rfl rfl rfl rfl rfl (by kernel_rfl) Try.func9 (by kernel_rfl)
    (of_decide_eq_true (by kernel_rfl)) (by unfold Func.isWrapper; first | (rw [if_pos (by decide +kernel)]; kernel_rfl) | (rw [if_neg (by decide +kernel)]; exact ⟨rfl, rfl⟩))
    (fun os started H enc _ => lifted_FnExactFreshTable os started H enc)
end Go.Proofs.Ytmnhgghnaklneaa
